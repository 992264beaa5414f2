/- What the loops of the reference's told keep. -/
import Derived.Test.YtjipjclbhdgkoaaDoorRin
import Derived.Test.YtjipjclbhdgkoaaDoorMtd
namespace Go.Proofs.YtjipjclbhdgkoaaDoor
open Go.RowKit

variable {h : Nat} {A : Option Addr} {N c : Nat} {M : List UInt8} {lim : Nat} {v : Value} {s : Sx} {bad : Nat}
def plc : Array Value := #[.int .i64 16, .int .i64 17, .int .i64 18, .int .i64 0, .int .i64 8, .int .i64 7, .int .i64 9, .int .i64 6, .int .i64 10, .int .i64 5, .int .i64 11, .int .i64 4, .int .i64 12, .int .i64 3, .int .i64 13, .int .i64 2, .int .i64 14, .int .i64 1, .int .i64 15]
theorem plc_at : ∀ j, j < 19 → plc[j]? = some (.int .i64 (places.getD j 0 : Int)) := fun j hj => by
  rcases (show j = 0 ∨ j = 1 ∨ j = 2 ∨ j = 3 ∨ j = 4 ∨ j = 5 ∨ j = 6 ∨ j = 7 ∨ j = 8 ∨ j = 9 ∨ j = 10 ∨ j = 11 ∨ j = 12 ∨ j = 13 ∨ j = 14 ∨ j = 15 ∨ j = 16 ∨ j = 17 ∨ j = 18 by omega) with rfl | rfl | rfl | rfl | rfl | rfl | rfl | rfl | rfl | rfl | rfl | rfl | rfl | rfl | rfl | rfl | rfl | rfl | rfl <;> rfl
/-- The two rows, and what was moved. -/
structure HR (w wr : World) (h q pl : Nat) (v v' : Value) (f : Nat → Nat) : Prop where
  mv : Moves w wr h h v v'
  row : Row wr q (ia f 19) 3
  prow : Row wr pl plc 3
  ap : some q ≠ v'.ownBlock
  app : some pl ≠ v'.ownBlock
  hq : w.heap.size ≤ q ∧ w.heap.size ≤ pl ∧ q ≠ pl ∧ h < w.heap.size
section
variable {w wr w' : World} {q pl : Nat} {v' v2 : Value} {f : Nat → Nat} {s' s2 : Sx}
theorem HR.step (g : HR w wr h q pl v v' f) (hm : Moves wr w' h h v' v2) : HR w w' h q pl v v2 f :=
  ⟨g.mv.trans hm, by unfold Row; rw [hm.block q g.row.lt (by have := g.hq; omega) (by have := g.hq; omega) g.ap]; exact g.row,
   by unfold Row; rw [hm.block pl g.prow.lt (by have := g.hq; omega) (by have := g.hq; omega) g.app]; exact g.prow,
   hm.apart g.row.lt g.ap, hm.apart g.prow.lt g.app, g.hq⟩
theorem HR.put (g : HR w wr h q pl v v' f) (p y : Nat) : HR w (wr.setCell ⟨q, p, none⟩ (.int .i64 (y : Int))) h q pl v v' (upd f p y) :=
  ⟨g.mv.beyond (grown_setCell wr q p _) (fun b hb => by injection hb with hb; subst hb; exact g.hq.1), g.row.iaSet p y _ rfl,
   g.prow.grown (grown_setCell wr q p _) (fun e => by injection e with e; have := g.hq; omega), g.ap, g.app, g.hq⟩
theorem HR.rs (g : HR w wr h q pl v v' f) (r : RS wr h A N c M lim v' s' bad) (p : Nat) (u : Value) : RS (wr.setCell ⟨q, p, none⟩ u) h A N c M lim v' s' bad :=
  r.beyond (grown_setCell wr q p u) (fun b hb => by injection hb with hb; subst hb; exact ⟨by have := g.hq; omega, g.ap⟩)
theorem HR.at_ (g : HR w wr h q pl v v' f) {j p : Nat} (hj : j < 19) (hp : places.getD j 0 = p) : wr.cell? ⟨pl, j, none⟩ = some (.int .i64 (p : Int)) := by
  rw [← hp, g.prow.cell j]; exact plc_at j hj
/-- What the helpers' loop keeps. -/
structure RHelpI (w wr : World) (h : Nat) (A : Option Addr) (N c : Nat) (M : List UInt8) (lim q pl k a b : Nat) (v v' : Value) (X : Except Nat ((List Nat × List Nat) × Sx)) (j : Nat) (s' : Sx) (hl : List Nat) (f : Nat → Nat) : Prop where
  rs : RS wr h A N c M lim v' s' 0
  hr : HR w wr h q pl v v' f
  len : hl.length = 19
  low : Low hl
  at_ : ∀ i, i < 19 → f i = hl.getD i 0
  sp : s'.steps ≤ s'.pos
  hx : bindX (bindX (helpX (k - j) j hl) helperK) (toldK a b) M lim s' = X
/-- What number leaves, with its error or without. -/
def NumO (w : World) (h : Nat) (A : Option Addr) (N c : Nat) (M : List UInt8) (lim : Nat) (v : Value) (s : Sx) (k : Nat) (e : Ending) (w' : World) : Prop :=
  ∃ y s2 v2 bad2, e = .returned (.int .i64 ((y : Nat) : Int)) ∧ RS w' h A N c M lim v2 s2 bad2 ∧ Moves w w' h h v v2 ∧ y < 2 ^ k ∧ ((bad2 = 0 ∧ numX k M lim s = .ok (y, s2)) ∨ (bad2 ≠ 0 ∧ numX k M lim s = .error bad2))
theorem rnum_o (k : Nat) (hk : k ≤ 16) (w : World) (g : RS w h A N c M lim v s 0) : Calls Tryd.prog 18 #[.pointer (some ⟨h, 0, none⟩), .int .i64 (k : Int)] w (NumO w h A N c M lim v s k) := by
  refine (rnum_any k hk w g).mono ?_
  rintro e w1 (⟨y, s1, v1, hx1, hg1, hm1, he1⟩ | ⟨k1, s1, v1, hx1, hk1, hg1, hm1, he1⟩)
  · exact ⟨y, s1, v1, 0, he1, hg1, hm1, numX_lt g.bin hx1, .inl ⟨rfl, hx1⟩⟩
  · exact ⟨0, s1, v1, k1, he1, hg1, hm1, Nat.two_pow_pos k, .inr ⟨hk1, hx1⟩⟩
/-- What sign leaves, with its error or without. -/
def SignO (w : World) (h : Nat) (A : Option Addr) (N c : Nat) (M : List UInt8) (lim : Nat) (v : Value) (s : Sx) (ls : List Nat) (e : Ending) (w' : World) : Prop :=
  ∃ y s2 v2 bad2, e = .returned (.int .i64 ((y : Nat) : Int)) ∧ RS w' h A N c M lim v2 s2 bad2 ∧ Moves w w' h h v v2 ∧ ((bad2 = 0 ∧ signX ls M lim s = .ok (y, s2)) ∨ (bad2 ≠ 0 ∧ y = 0 ∧ signX ls M lim s = .error bad2))
theorem rsign_o (p : Nat) (ls : List Nat) (w : World) (g : RS w h A N c M lim v s 0) (hc : RC w h v p ls) : Calls Tryd.prog 31 #[.pointer (some ⟨h, 0, none⟩), .slice (some ⟨p, 0, none⟩) ls.length ls.length] w (SignO w h A N c M lim v s ls) := by
  refine (rsign_any p ls w g hc).mono ?_
  rintro e w1 (⟨y, s1, v1, hx1, hg1, hm1, he1⟩ | ⟨k1, s1, v1, hx1, hk1, hg1, hm1, he1⟩)
  · exact ⟨y, s1, v1, 0, he1, hg1, hm1, .inl ⟨rfl, hx1⟩⟩
  · exact ⟨0, s1, v1, k1, he1, hg1, hm1, .inr ⟨hk1, rfl, hx1⟩⟩
/-- wrong, with an error already or without. -/
def wrongB (bad : Nat) (b : Bool) (k : Nat) : Nat := if bad = 0 then (if b = true then k else 0) else bad
theorem rwrong_o (b : Bool) (k : Nat) (z : Int) (hz : z = (k : Int)) (w : World) (g : RS w h A N c M lim v s bad) : Calls Tryd.prog 24 #[.pointer (some ⟨h, 0, none⟩), .bool b, .int .i64 z] w fun e w' => e = .returned (.tuple #[]) ∧ ∃ bad', bad' = wrongB bad b k ∧ RS w' h A N c M lim v s bad' ∧ Moves w w' h h v v := by
  by_cases h0 : bad = 0
  · subst h0
    cases b with
    | false =>
      refine (rwrong_no false z w g (.inr rfl)).mono ?_
      rintro e w1 ⟨rfl, rfl⟩
      exact ⟨rfl, 0, rfl, g, Moves.refl w h h v⟩
    | true =>
      refine (rwrong_yes true rfl k z hz w g).mono ?_
      rintro e w1 ⟨rfl, hg, hm, _⟩
      exact ⟨rfl, k, rfl, hg, hm⟩
  · refine (rwrong_no b z w g (.inl h0)).mono ?_
    rintro e w1 ⟨rfl, rfl⟩
    exact ⟨rfl, bad, by unfold wrongB; rw [if_neg h0], g, Moves.refl w h h v⟩
/-- The tail of told. -/
def toldL (la : Nat) (l : List Nat) : X (List Nat × List Nat) := if right (l.take la) false = false ∨ right (l.drop la) true = false ∨ l.getD 256 0 = 0 then failX 2 else pureX (l.take la, l.drop la)
theorem toldK_eq {a b la tt : Nat} (h1 : 257 + a = la) (h2 : la + (1 + b) = tt) (hl : List Nat) : toldK a b hl = bindX (lensX hl tt (tt + 1) []) (toldL la) := by
  subst h1 h2; rfl
/-- What the lengths' loop keeps. -/
structure RLensI (w wr : World) (h : Nat) (A : Option Addr) (N c : Nat) (M : List UInt8) (lim B p : Nat) (hl : List Nat) (v v' u : Value) (s' : Sx) (ll : List Nat) (bad : Nat) : Prop where
  rs : RS wr h A N c M lim v' s' bad
  mv : Moves w wr h h v v'
  own : OwnI wr B u (ints64 ll)
  ap : ∀ b, u.ownBlock = some b → some b ≠ v'.ownBlock
  rc : RC wr h v' p hl
  hB : w.heap.size ≤ B ∧ h < B ∧ p < B ∧ h < w.heap.size
  bs : B ≤ wr.heap.size
section
variable {B p : Nat} {hl ll : List Nat} {u u' : Value} {bad2 : Nat}
theorem RLensI.step (g : RLensI w wr h A N c M lim B p hl v v' u s' ll bad) (hr : RS w' h A N c M lim v2 s2 bad2) (hm : Moves wr w' h h v' v2) : RLensI w w' h A N c M lim B p hl v v2 u s2 ll bad2 := by
  have hlt := World.ownsRow.lt g.own
  have hb : ∀ b, u.ownBlock = some b → w'.heap[b]? = wr.heap[b]? := fun b hb => hm.block b (hlt b hb).2 (by have := (hlt b hb).1; have := g.hB; omega) (by have := (hlt b hb).1; have := g.hB; omega) (g.ap b hb)
  refine ⟨hr, g.mv.trans hm, ?_, fun b hb' => hm.apart (hlt b hb').2 (g.ap b hb'), g.rc.moves hm, g.hB, Nat.le_trans g.bs hm.size⟩
  have ho := g.own
  refine ⟨ho.1, ?_⟩
  rcases ho.2 with h1 | ⟨q, cap, cur, h1, h2, h3, h4⟩
  · exact .inl h1
  · exact .inr ⟨q, cap, cur, h1, h2, by rw [hb q (by rw [h1]; rfl)]; exact h3, h4⟩
theorem RLensI.push (g : RLensI w wr h A N c M lim B p hl v v' u s' ll bad) {y : Nat} (ho : OwnI w' B u' (ints64 (ll ++ [y]))) (hg : wr.grownBy w' u.ownBlock) (hf : Fresh wr u u') : RLensI w w' h A N c M lim B p hl v v' u' s' (ll ++ [y]) bad := by
  have hlt := World.ownsRow.lt g.own
  refine ⟨g.rs.beyond hg (fun b hb => ⟨by have := (hlt b hb).1; have := g.hB; omega, g.ap b hb⟩), g.mv.beyond hg (fun b hb => by have := (hlt b hb).1; have := g.hB; omega), ho, fun b hb => ?_, ?_, g.hB, Nat.le_trans g.bs hg.size⟩
  · rcases hf with e | ⟨k, e, hk⟩
    · exact g.ap b (e ▸ hb)
    · rw [e] at hb
      injection hb with hb
      intro e2
      have := (g.rs.ownLt e2.symm).2
      omega
  · exact ⟨g.rc.low, g.rc.ok, g.rc.len, g.rc.row.grown hg (fun e => by have := (hlt p e.symm).1; have := g.hB; omega), g.rc.ne, g.rc.ap⟩
end
end
theorem rl_more {hl ll : List Nat} {tt k x : Nat} {p : Nat × Nat} {s1 s2 : Sx} (h0 : ¬ tt ≤ ll.length) (hs : signX hl M lim ⟨s.pos, s.out, s.steps + 1⟩ = .ok (x, s1)) (hr : runX x ll M lim s1 = .ok (p, s2)) (ht : ¬ tt < ll.length + p.1) :
    lensX hl tt (k + 1) ll M lim s = lensX hl tt k (ll ++ List.replicate p.1 p.2) M lim s2 := by
  rw [lensX, if_neg h0]
  exact ok_bind (f := stepX) rfl (ok_bind hs (ok_bind hr (by rw [if_neg ht])))
theorem rl_no1 {hl ll : List Nat} {tt k e : Nat} (h0 : ¬ tt ≤ ll.length) (hs : signX hl M lim ⟨s.pos, s.out, s.steps + 1⟩ = .error e) : lensX hl tt (k + 1) ll M lim s = .error e := by
  rw [lensX, if_neg h0]
  exact ok_bind (f := stepX) rfl (err_bind hs)
theorem rl_no2 {hl ll : List Nat} {tt k e x : Nat} {s1 : Sx} (h0 : ¬ tt ≤ ll.length) (hs : signX hl M lim ⟨s.pos, s.out, s.steps + 1⟩ = .ok (x, s1)) (hr : runX x ll M lim s1 = .error e) : lensX hl tt (k + 1) ll M lim s = .error e := by
  rw [lensX, if_neg h0]
  exact ok_bind (f := stepX) rfl (ok_bind hs (err_bind hr))
theorem rl_no3 {hl ll : List Nat} {tt k x : Nat} {p : Nat × Nat} {s1 s2 : Sx} (h0 : ¬ tt ≤ ll.length) (hs : signX hl M lim ⟨s.pos, s.out, s.steps + 1⟩ = .ok (x, s1)) (hr : runX x ll M lim s1 = .ok (p, s2)) (ht : tt < ll.length + p.1) :
    lensX hl tt (k + 1) ll M lim s = .error 2 := by
  rw [lensX, if_neg h0]
  exact ok_bind (f := stepX) rfl (ok_bind hs (ok_bind hr (by rw [if_pos ht]; rfl)))
/-- What is known where the lengths are about to be put: t times the length x. -/
def TailF (tt la F t x : Nat) (hl ll : List Nat) (M : List UInt8) (lim : Nat) (X : Except Nat ((List Nat × List Nat) × Sx)) (s' s5 : Sx) (bad5 : Nat) : Prop :=
  (bad5 = 0 ∧ x ≤ 15 ∧ s'.pos < s5.pos ∧ s5.steps ≤ s5.pos ∧ (¬ tt < ll.length + t → bindX (lensX hl tt F (ll ++ List.replicate t x)) (toldL la) M lim s5 = X) ∧ (tt < ll.length + t → X = .error 2)) ∨ (bad5 ≠ 0 ∧ X = .error bad5)
def Tail6 (tt la F t x : Nat) (hl ll : List Nat) (M : List UInt8) (lim : Nat) (X : Except Nat ((List Nat × List Nat) × Sx)) (s' s5 : Sx) (bad6 : Nat) : Prop :=
  (bad6 = 0 ∧ x ≤ 15 ∧ s'.pos < s5.pos ∧ s5.steps ≤ s5.pos ∧ ll.length + t ≤ tt ∧ bindX (lensX hl tt F (ll ++ List.replicate t x)) (toldL la) M lim s5 = X) ∨ (bad6 ≠ 0 ∧ X = .error bad6)
section
variable {tt la F t x : Nat} {hl ll : List Nat} {X : Except Nat ((List Nat × List Nat) × Sx)} {s' s5 : Sx} {bad5 bad6 : Nat}
theorem tail6 (g : TailF tt la F t x hl ll M lim X s' s5 bad5) {b : Bool} (hb : b = decide (tt < ll.length + t)) (h6 : bad6 = wrongB bad5 b 2) : Tail6 tt la F t x hl ll M lim X s' s5 bad6 := by
  subst hb h6
  rcases g with ⟨rfl, h1, h2, h3, h4, h5⟩ | ⟨h1, h2⟩
  · by_cases ht : tt < ll.length + t
    · refine .inr ⟨?_, ?_⟩ <;> unfold wrongB <;> rw [if_pos rfl, if_pos (decide_eq_true ht)]
      · decide
      · exact h5 ht
    · refine .inl ⟨?_, h1, h2, h3, by omega, h4 ht⟩
      unfold wrongB
      rw [if_pos rfl, if_neg (by rw [decide_eq_true_eq]; exact ht)]
  · refine .inr ⟨?_, ?_⟩ <;> unfold wrongB <;> rw [if_neg h1]
    · exact h1
    · exact h2
/-- Behind a sign and what it tells. -/
theorem tail_ok {s1 : Sx} {y : Nat} (hX : bindX (lensX hl tt (F + 1) ll) (toldL la) M lim s' = X) (h0 : ¬ tt ≤ ll.length) (hs : signX hl M lim ⟨s'.pos, s'.out, s'.steps + 1⟩ = .ok (y, s1)) (hr : runX y ll M lim s1 = .ok ((t, x), s5))
    (hx : x ≤ 15) (hp : s'.pos < s5.pos) (hsp : s5.steps ≤ s5.pos) : TailF tt la F t x hl ll M lim X s' s5 0 :=
  .inl ⟨rfl, hx, hp, hsp, fun ht => by rw [← hX]; exact (bind_same (rl_more h0 hs hr ht)).symm, fun ht => by rw [← hX]; exact err_bind (rl_no3 h0 hs hr ht)⟩
theorem tail_no {s1 : Sx} {y : Nat} (hX : bindX (lensX hl tt (F + 1) ll) (toldL la) M lim s' = X) (h0 : ¬ tt ≤ ll.length) (hs : signX hl M lim ⟨s'.pos, s'.out, s'.steps + 1⟩ = .ok (y, s1)) (hb : bad5 ≠ 0) (hr : runX y ll M lim s1 = .error bad5) : TailF tt la F t x hl ll M lim X s' s5 bad5 :=
  .inr ⟨hb, by rw [← hX]; exact err_bind (rl_no2 h0 hs hr)⟩
theorem tail_no1 (hX : bindX (lensX hl tt (F + 1) ll) (toldL la) M lim s' = X) (h0 : ¬ tt ≤ ll.length) (hb : bad5 ≠ 0) (hs : signX hl M lim ⟨s'.pos, s'.out, s'.steps + 1⟩ = .error bad5) : TailF tt la F t x hl ll M lim X s' s5 bad5 :=
  .inr ⟨hb, by rw [← hX]; exact err_bind (rl_no1 h0 hs)⟩
end
end Go.Proofs.YtjipjclbhdgkoaaDoor
