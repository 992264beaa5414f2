/- What the unpacking machine is in memory, and what its steps leave alone. -/
import Derived.Test.YtjipjclbhdgkoaaDoorGroupB
import Derived.Test.YtjipjclbhdgkoaaDoorTak
import Derived.Test.YtjipjclbhdgkoaaDoorFix
import Derived.Test.YtjipjclbhdgkoaaDoorGroupE
namespace Go.Proofs.YtjipjclbhdgkoaaDoor
open Go.RowKit

/-- What a step leaves alone: all blocks but the machine's, its reader's and its text's. -/
structure Moves (w w' : World) (g r : Nat) (v v' : Value) : Prop where
  os : w'.os = w.os
  tape : w'.tape = w.tape
  output : w'.output = w.output
  size : w.heap.size ≤ w'.heap.size
  block : ∀ k, k < w.heap.size → k ≠ g → k ≠ r → some k ≠ v.ownBlock → w'.heap[k]? = w.heap[k]?
  fresh : Fresh w v v'
theorem Moves.refl (w : World) (g r : Nat) (v : Value) : Moves w w g r v v := ⟨rfl, rfl, rfl, Nat.le_refl _, fun _ _ _ _ _ => rfl, Fresh.same _ _⟩
theorem Moves.trans {w w1 w2 : World} {g r : Nat} {v v1 v2 : Value} (h : Moves w w1 g r v v1) (h' : Moves w1 w2 g r v1 v2) : Moves w w2 g r v v2 := by
  refine ⟨h'.os.trans h.os, h'.tape.trans h.tape, h'.output.trans h.output, Nat.le_trans h.size h'.size, fun k hk h1 h2 h3 => ?_, ?_⟩
  · refine (h'.block k (Nat.lt_of_lt_of_le hk h.size) h1 h2 ?_).trans (h.block k hk h1 h2 h3)
    rcases h.fresh with h4 | ⟨j, h4, h5⟩
    · rw [h4]; exact h3
    · rw [h4]; intro e; injection e with e; omega
  · rcases h'.fresh with h4 | ⟨j, h4, h5⟩
    · rcases h.fresh with h6 | ⟨i, h6, h7⟩
      · exact .inl (h4.trans h6)
      · exact .inr ⟨i, h4.trans h6, h7⟩
    · exact .inr ⟨j, h4, Nat.le_trans h.size h5⟩
theorem Moves.grown {w w' : World} {g r : Nat} (v : Value) {q : Option Nat} (h : w.grownBy w' q) (hq : q = none ∨ q = some g ∨ q = some r ∨ q = v.ownBlock) : Moves w w' g r v v := by
  refine ⟨h.os, h.tape, h.output, h.size, fun k hk h1 h2 h3 => h.block k hk ?_, Fresh.same _ _⟩
  rcases hq with e | e | e | e
  · rw [e]; simp
  · rw [e]; intro e; injection e with e; exact h1 e
  · rw [e]; intro e; injection e with e; exact h2 e
  · rw [e]; exact h3
/-- Block a holds the code of the lengths ls, in blocks of its own behind the machine. -/
def CD (w : World) (g : Nat) (v : Value) (a : Nat) (ls : List Nat) : Prop := ∃ lo hi, HL w lo hi a ls ∧ g < lo ∧ hi ≤ w.heap.size ∧ ∀ k, v.ownBlock = some k → k < lo ∨ hi ≤ k
theorem CD.moves {w w' : World} {g r : Nat} {v v' : Value} {a : Nat} {ls : List Nat} (h : CD w g v a ls) (hm : Moves w w' g r v v') (hr : r < g) : CD w' g v' a ls := by
  obtain ⟨lo, hi, h1, h2, h3, h4⟩ := h
  refine ⟨lo, hi, fun w'' ha => h1 w'' fun k k1 k2 => (ha k k1 k2).trans (hm.block k (by omega) (by omega) (by omega) ?_), h2, Nat.le_trans h3 hm.size, ?_⟩
  · intro e; rcases h4 k e.symm with h | h <;> omega
  · rcases hm.fresh with e | ⟨j, e, h5⟩
    · intro k hk; exact h4 k (e ▸ hk)
    · intro k hk; rw [e] at hk; injection hk with hk; omega
/-- The same, in blocks below H. -/
def CDH (w : World) (H g : Nat) (v : Value) (a : Nat) (ls : List Nat) : Prop := ∃ lo hi, HL w lo hi a ls ∧ g < lo ∧ hi ≤ H ∧ ∀ k, v.ownBlock = some k → k < lo ∨ hi ≤ k
theorem CDH.cd {w : World} {H g : Nat} {v : Value} {a : Nat} {ls : List Nat} (h : CDH w H g v a ls) (hH : H ≤ w.heap.size) : CD w g v a ls := by
  obtain ⟨lo, hi, h1, h2, h3, h4⟩ := h
  exact ⟨lo, hi, h1, h2, Nat.le_trans h3 hH, h4⟩
theorem CD.cdh {w : World} {g : Nat} {v : Value} {a : Nat} {ls : List Nat} (h : CD w g v a ls) : CDH w w.heap.size g v a ls := h
theorem CDH.more {w : World} {H H' g : Nat} {v : Value} {a : Nat} {ls : List Nat} (h : CDH w H g v a ls) (hH : H ≤ H') : CDH w H' g v a ls := by
  obtain ⟨lo, hi, h1, h2, h3, h4⟩ := h
  exact ⟨lo, hi, h1, h2, Nat.le_trans h3 hH, h4⟩
theorem CDH.moves {w w' : World} {H g r : Nat} {v v' : Value} {a : Nat} {ls : List Nat} (h : CDH w H g v a ls) (hH : H ≤ w.heap.size) (hm : Moves w w' g r v v') (hr : r < g) : CDH w' H g v' a ls := by
  obtain ⟨lo, hi, h1, h2, h3, h4⟩ := h
  refine ⟨lo, hi, fun w'' ha => h1 w'' fun k k1 k2 => (ha k k1 k2).trans (hm.block k (by omega) (by omega) (by omega) ?_), h2, h3, ?_⟩
  · intro e; rcases h4 k e.symm with h | h <;> omega
  · rcases hm.fresh with e | ⟨j, e, h5⟩
    · intro k hk; exact h4 k (e ▸ hk)
    · intro k hk; rw [e] at hk; injection hk with hk; omega
/-- Another block from H on has changed. -/
theorem CDH.beyond {w w' : World} {H g : Nat} {v : Value} {a : Nat} {ls : List Nat} {q : Option Nat} (h : CDH w H g v a ls) (hH : H ≤ w.heap.size) (hg : w.grownBy w' q) (hq : ∀ b, q = some b → H ≤ b) : CDH w' H g v a ls := by
  obtain ⟨lo, hi, h1, h2, h3, h4⟩ := h
  exact ⟨lo, hi, fun w'' ha => h1 w'' fun k k1 k2 => (ha k k1 k2).trans (hg.block k (by omega) (fun e => by have := hq k e.symm; omega)), h2, h3, h4⟩
/-- The fixed codes, if they were made. -/
def FX (w : World) (H g : Nat) (v fl fd : Value) : Prop :=
  (fl = .pointer none ∧ fd = .pointer none) ∨ ∃ a b, fl = .pointer (some ⟨a, 0, none⟩) ∧ fd = .pointer (some ⟨b, 0, none⟩) ∧ CDH w H g v a fixA ∧ CDH w H g v b fixB
theorem FX.moves {w w' : World} {H g r : Nat} {v v' fl fd : Value} (h : FX w H g v fl fd) (hH : H ≤ w.heap.size) (hm : Moves w w' g r v v') (hr : r < g) : FX w' H g v' fl fd := by
  rcases h with h | ⟨a, b, h1, h2, h3, h4⟩
  · exact .inl h
  · exact .inr ⟨a, b, h1, h2, h3.moves hH hm hr, h4.moves hH hm hr⟩
theorem FX.beyond {w w' : World} {H g : Nat} {v fl fd : Value} {q : Option Nat} (h : FX w H g v fl fd) (hH : H ≤ w.heap.size) (hg : w.grownBy w' q) (hq : ∀ b, q = some b → H ≤ b) : FX w' H g v fl fd := by
  rcases h with h | ⟨a, b, h1, h2, h3, h4⟩
  · exact .inl h
  · exact .inr ⟨a, b, h1, h2, h3.beyond hH hg hq, h4.beyond hH hg hq⟩
theorem FX.more {w : World} {H H' g : Nat} {v fl fd : Value} (h : FX w H g v fl fd) (hH : H ≤ H') : FX w H' g v fl fd := by
  rcases h with h | ⟨a, b, h1, h2, h3, h4⟩
  · exact .inl h
  · exact .inr ⟨a, b, h1, h2, h3.more hH, h4.more hH⟩
/-- The helpers' order, which the program's table holds. -/
def Tab (w : World) : Prop := ∀ k, k < 19 → w.cell? ⟨0, k, none⟩ = some (.int .i64 (places.getD k 0 : Int))
def mcells (r : Nat) (v : Value) (lim steps : Nat) (fl fd : Value) : Array Value := #[.pointer (some ⟨r, 0, none⟩), v, .int .i64 (lim : Int), .int .i64 (steps : Int), fl, fd]
/-- Block g holds the machine, block r its reader of the bytes l, in the state s. -/
structure MS (w : World) (g r H : Nat) (A : Option Addr) (n c : Nat) (l : List UInt8) (lim : Nat) (v : Value) (s : Sx) : Prop where
  fx : ∃ fl fd, Row w g (mcells r v lim s.steps fl fd) 47 ∧ FX w H g v fl fd
  rrow : Row w r #[.slice A n c, .int .i64 (s.pos : Int)] 68
  rd : Rd w r A n (us l)
  cap : A = none → c = 0
  form : A = none ∨ ∃ b o, A = some ⟨b, o, none⟩
  lc : n ≤ c
  le : s.pos ≤ 8 * n
  own : Own w (g + 1) v s.out
  rg : r < g
  pos : 0 < r
  tab : Tab w
  sp : s.steps ≤ s.pos
  ol : s.out.length ≤ lim
  lm : lim ≤ 1048576
  nn : n ≤ 1000000
  hs : H ≤ w.heap.size
  gh : g < H
section
variable {w w' : World} {g r H : Nat} {A : Option Addr} {n c : Nat} {l : List UInt8} {lim : Nat} {v v' : Value} {s : Sx}
theorem MS.len (h : MS w g r H A n c l lim v s) : l.length = n := by have := h.rd.1; rwa [us_length] at this
theorem MS.bits (h : MS w g r H A n c l lim v s) : (bitsL l).length = 8 * n := by rw [bitsL_length, h.len]
theorem MS.ra (h : MS w g r H A n c l lim v s) : RA w [r] r A n c l s.pos :=
  ⟨h.rrow, h.rd.rdS (Nat.le_of_lt h.rrow.lt) (by simp), h.cap, h.le, h.form, h.lc⟩
theorem MS.lt (h : MS w g r H A n c l lim v s) : g < w.heap.size := by obtain ⟨_, _, h1, _⟩ := h.fx; exact h1.lt
theorem MS.ownLt (h : MS w g r H A n c l lim v s) {k : Nat} (hk : v.ownBlock = some k) : g < k ∧ k < w.heap.size := by
  have := World.ownsRow.lt h.own k hk; omega
theorem MS.ne (h : MS w g r H A n c l lim v s) {k : Nat} (hk : k ≤ g) : some k ≠ v.ownBlock := by
  intro e; have := (h.ownLt e.symm).1; omega
theorem MS.cell0 (h : MS w g r H A n c l lim v s) : w.cell? ⟨g, 0, none⟩ = some (.pointer (some ⟨r, 0, none⟩)) := by obtain ⟨_, _, h1, _⟩ := h.fx; exact h1.cell 0
theorem MS.cell1 (h : MS w g r H A n c l lim v s) : w.cell? ⟨g, 1, none⟩ = some v := by obtain ⟨_, _, h1, _⟩ := h.fx; exact h1.cell 1
theorem MS.cell2 (h : MS w g r H A n c l lim v s) : w.cell? ⟨g, 2, none⟩ = some (.int .i64 (lim : Int)) := by obtain ⟨_, _, h1, _⟩ := h.fx; exact h1.cell 2
theorem MS.cell3 (h : MS w g r H A n c l lim v s) : w.cell? ⟨g, 3, none⟩ = some (.int .i64 (s.steps : Int)) := by obtain ⟨_, _, h1, _⟩ := h.fx; exact h1.cell 3
theorem MS.thawed (h : MS w g r H A n c l lim v s) (k : Nat) : w.frozen? ⟨g, k, none⟩ = false := by obtain ⟨_, _, h1, _⟩ := h.fx; exact h1.thawed k
theorem Tab.block (h : Tab w) (e : w'.heap[0]? = w.heap[0]?) : Tab w' := fun k hk => (World.cell?_of_block (w := w) (a := ⟨0, k, none⟩) e).trans (h k hk)
/-- Behind a step of the reader. -/
theorem MS.reader (h : MS w g r H A n c l lim v s) {p : Nat} (hR : RA w' [r] r A n c l p) (hg : w.grownBy w' (some r)) (hp : s.pos ≤ p) : MS w' g r H A n c l lim v ⟨p, s.out, s.steps⟩ := by
  obtain ⟨fl, fd, h1, h2⟩ := h.fx
  have h0 := h.pos
  have hb : Below r w w' := ⟨hg.os, hg.tape, hg.output, hg.size, fun k hk => hg.block k (Nat.lt_trans hk h.rrow.lt) (fun e => by injection e with e; omega)⟩
  refine ⟨⟨fl, fd, h1.grown hg (by intro e; injection e with e; have := h.rg; omega), h2.moves h.hs (Moves.grown (g := g) v hg (.inr (.inr (.inl rfl)))) h.rg⟩, hR.row, h.rd.below hb, h.cap, h.form, h.lc, hR.le,
    World.ownsRow.kept h.own hg (.inr (Ne.symm (h.ne (Nat.le_of_lt h.rg)))), h.rg, h.pos, h.tab.block (hb.block 0 h0), Nat.le_trans h.sp hp, h.ol, h.lm, h.nn, Nat.le_trans h.hs hg.size, h.gh⟩
theorem own_none (v : Value) : v.ownBlock = none ∨ v.ownBlock ≠ none := by cases v.ownBlock <;> simp
theorem MS.still (h : MS w g r H A n c l lim v s) (hg : w.grownBy w' none) : MS w' g r H A n c l lim v s := by
  obtain ⟨fl, fd, h1, h2⟩ := h.fx
  have hb : Below r w w' := ⟨hg.os, hg.tape, hg.output, hg.size, fun k hk => hg.block k (Nat.lt_trans hk h.rrow.lt) (by simp)⟩
  exact ⟨⟨fl, fd, h1.grown hg (by simp), h2.moves h.hs (Moves.grown (g := g) v hg (.inl rfl)) h.rg⟩, h.rrow.grown hg (by simp), h.rd.below hb, h.cap, h.form, h.lc, h.le,
    World.ownsRow.kept h.own hg (own_none v), h.rg, h.pos, h.tab.block (hb.block 0 h.pos), h.sp, h.ol, h.lm, h.nn, Nat.le_trans h.hs hg.size, h.gh⟩
/-- Another block has changed, which is none of the machine's. -/
theorem MS.beyond {q : Option Nat} (h : MS w g r H A n c l lim v s) (hg : w.grownBy w' q) (hq : ∀ b, q = some b → H ≤ b ∧ some b ≠ v.ownBlock) : MS w' g r H A n c l lim v s := by
  obtain ⟨fl, fd, h1, h2⟩ := h.fx
  have hgh := h.gh
  have hrg := h.rg
  have hne : ∀ k, k ≤ g → some k ≠ q := fun k hk e => by have := (hq k e.symm).1; omega
  have hb : Below r w w' := ⟨hg.os, hg.tape, hg.output, hg.size, fun k hk => hg.block k (Nat.lt_trans hk h.rrow.lt) (hne k (by omega))⟩
  exact ⟨⟨fl, fd, h1.grown hg (hne g (Nat.le_refl _)), h2.beyond h.hs hg (fun b e => (hq b e).1)⟩, h.rrow.grown hg (hne r (by omega)), h.rd.below hb, h.cap, h.form, h.lc, h.le,
    World.ownsRow.kept h.own hg (by
      cases hv : v.ownBlock with
      | none => exact .inl rfl
      | some k => right; intro e; exact (hq k e.symm).2 hv.symm), h.rg, h.pos, h.tab.block (hb.block 0 h.pos), h.sp, h.ol, h.lm, h.nn, Nat.le_trans h.hs hg.size, h.gh⟩
theorem MS.more {H' : Nat} (h : MS w g r H A n c l lim v s) (h1 : H ≤ H') (h2 : H' ≤ w.heap.size) : MS w g r H' A n c l lim v s := by
  obtain ⟨fl, fd, h3, h4⟩ := h.fx
  exact ⟨⟨fl, fd, h3, h4.more h1⟩, h.rrow, h.rd, h.cap, h.form, h.lc, h.le, h.own, h.rg, h.pos, h.tab, h.sp, h.ol, h.lm, h.nn, h2, Nat.lt_of_lt_of_le h.gh h1⟩
theorem Moves.beyond {w2 : World} {q : Option Nat} (h : Moves w w' g r v v') (hg : w'.grownBy w2 q) (hq : ∀ b, q = some b → w.heap.size ≤ b) : Moves w w2 g r v v' :=
  ⟨hg.os.trans h.os, hg.tape.trans h.tape, hg.output.trans h.output, Nat.le_trans h.size hg.size, fun k hk h1 h2 h3 => (hg.block k (Nat.lt_of_lt_of_le hk h.size) (fun e => by have := hq k e.symm; omega)).trans (h.block k hk h1 h2 h3), h.fresh⟩
/-- A block that was there, and isn't the text's, isn't then, either. -/
theorem Moves.apart (h : Moves w w' g r v v') {b : Nat} (hb : b < w.heap.size) (hv : some b ≠ v.ownBlock) : some b ≠ v'.ownBlock := by
  rcases h.fresh with e | ⟨j, e, hj⟩
  · rw [e]; exact hv
  · rw [e]; intro e; injection e with e; omega
theorem MS.steps (h : MS w g r H A n c l lim v s) (k : Nat) (hk : s.steps + k ≤ s.pos) (z : Int) (hz : z = ((s.steps + k : Nat) : Int)) :
    MS (w.setCell ⟨g, 3, none⟩ (.int .i64 z)) g r H A n c l lim v ⟨s.pos, s.out, s.steps + k⟩ ∧ Moves w (w.setCell ⟨g, 3, none⟩ (.int .i64 z)) g r v v := by
  subst hz
  obtain ⟨fl, fd, h1, h2⟩ := h.fx
  have hg := grown_setCell w g 3 (.int .i64 ((s.steps + k : Nat) : Int))
  have hm : Moves w (w.setCell ⟨g, 3, none⟩ (.int .i64 ((s.steps + k : Nat) : Int))) g r v v := Moves.grown v hg (.inr (.inl rfl))
  have hrg := h.rg
  have hb : Below r w (w.setCell ⟨g, 3, none⟩ (.int .i64 ((s.steps + k : Nat) : Int))) := ⟨hg.os, hg.tape, hg.output, hg.size, fun k hk => hg.block k (Nat.lt_trans hk h.rrow.lt) (fun e => by injection e with e; omega)⟩
  exact ⟨⟨⟨fl, fd, h1.set 3 _, h2.moves h.hs hm h.rg⟩, h.rrow.grown hg (fun e => by injection e with e; omega), h.rd.below hb, h.cap, h.form, h.lc, h.le,
    World.ownsRow.kept h.own hg (.inr (Ne.symm (h.ne (Nat.le_refl _)))), h.rg, h.pos, h.tab.block (hb.block 0 h.pos), hk, h.ol, h.lm, h.nn, Nat.le_trans h.hs hg.size, h.gh⟩, hm⟩
theorem MS.text {w1 : World} {out' : List UInt8} (h : MS w g r H A n c l lim v s) (hg : w.grownBy w1 v.ownBlock) (ho : Own w1 (g + 1) v' out') (hf : Fresh w v v') (hl : out'.length ≤ lim) :
    MS (w1.setCell ⟨g, 1, none⟩ v') g r H A n c l lim v' ⟨s.pos, out', s.steps⟩ ∧ Moves w (w1.setCell ⟨g, 1, none⟩ v') g r v v' := by
  obtain ⟨fl, fd, h1, h2⟩ := h.fx
  have hrg := h.rg
  have hg2 := grown_setCell w1 g 1 v'
  have hm : Moves w (w1.setCell ⟨g, 1, none⟩ v') g r v v' :=
    ⟨hg2.os.trans hg.os, hg2.tape.trans hg.tape, hg2.output.trans hg.output, Nat.le_trans hg.size hg2.size,
      fun k hk k1 k2 k3 => (hg2.block k (Nat.lt_of_lt_of_le hk hg.size) (fun e => by injection e with e; exact k1 e)).trans (hg.block k hk k3), hf⟩
  have hb : Below r w (w1.setCell ⟨g, 1, none⟩ v') := ⟨hm.os, hm.tape, hm.output, hm.size, fun k hk => hm.block k (Nat.lt_trans hk h.rrow.lt) (by omega) (by omega) (h.ne (by omega))⟩
  have h3 := h1.grown hg (h.ne (Nat.le_refl _))
  have hne : v'.ownBlock = none ∨ v'.ownBlock ≠ some g := by
    rcases hf with e | ⟨j, e, hj⟩
    · rw [e]; exact .inr (Ne.symm (h.ne (Nat.le_refl _)))
    · rw [e]; right; intro e; injection e with e; have := h.lt; omega
  exact ⟨⟨⟨fl, fd, h3.set 1 _, h2.moves h.hs hm h.rg⟩, (h.rrow.grown hg (h.ne (Nat.le_of_lt hrg))).grown hg2 (fun e => by injection e with e; omega), h.rd.below hb, h.cap, h.form, h.lc, h.le,
    World.ownsRow.kept ho hg2 hne, h.rg, h.pos, h.tab.block (hb.block 0 h.pos), h.sp, hl, h.lm, h.nn, Nat.le_trans h.hs hm.size, h.gh⟩, hm⟩
/-- What a part of the program does: as the plain part, or it throws its error. -/
def Out (w : World) (g r H : Nat) (A : Option Addr) (n c : Nat) (l : List UInt8) (lim : Nat) (v : Value) {α : Type} (x : Except Nat (α × Sx)) (P : α → Ending → World → Value → Prop) (e : Ending) (w' : World) : Prop :=
  (∃ a s' v', x = .ok (a, s') ∧ MS w' g r H A n c l lim v' s' ∧ Moves w w' g r v v' ∧ P a e w' v') ∨
  (∃ k b v', x = .error k ∧ e = .panicked (flt ⟨b, 0, none⟩) ∧ w.heap.size ≤ b ∧ w'.cell? ⟨b, 0, none⟩ = some (.int .i64 (k : Int)) ∧ Moves w w' g r v v')
def ints (a : Nat) (e : Ending) (_ : World) (_ : Value) : Prop := e = .returned (.int .i64 (a : Int))
def unit (_ : Unit) (e : Ending) (_ : World) (_ : Value) : Prop := e = .returned (.tuple #[])
/-- Something was thrown. -/
theorem Out.thrown {α : Type} {x : Except Nat (α × Sx)} {P : α → Ending → World → Value → Prop} {w1 : World} {k : Nat} (hx : x = .error k) (hm : Moves w w1 g r v v') (z : Int) (hz : z = (k : Int)) :
    Out w g r H A n c l lim v x P (.panicked (flt ⟨w1.heap.size, 0, none⟩)) (w1.alloc (.cells #[.int .i64 z, .string ⟨#[]⟩] 75)) := by
  subst hz
  refine .inr ⟨k, _, v', hx, rfl, hm.size, ?_, hm.trans (Moves.grown v' (World.grownBy_alloc w1 _ none) (.inl rfl))⟩
  exact cells_new w1 #[.int .i64 (k : Int), .string ⟨#[]⟩] 75 0 _ rfl
theorem Out.passed {α : Type} {x : Except Nat (α × Sx)} {P : α → Ending → World → Value → Prop} {w1 w2 : World} {k b : Nat} {v1 v2 : Value} (hm : Moves w w1 g r v v1) (hx : x = .error k) (hb : w1.heap.size ≤ b) (hc : w2.cell? ⟨b, 0, none⟩ = some (.int .i64 (k : Int))) (hm2 : Moves w1 w2 g r v1 v2) :
    Out w g r H A n c l lim v x P (.panicked (flt ⟨b, 0, none⟩)) w2 := .inr ⟨k, b, v2, hx, rfl, Nat.le_trans hm.size hb, hc, hm.trans hm2⟩
theorem bind_err {α β : Type} {f : X α} {h : α → X β} {L : List UInt8} {s : Sx} {k : Nat} {x : Except Nat (β × Sx)} (hf : f L lim s = .error k) (hx : bindX f h L lim s = x) : x = .error k := by
  rw [← hx]; unfold bindX; rw [hf]
theorem bind_go {α β : Type} {f : X α} {h : α → X β} {L : List UInt8} {s s1 : Sx} {a : α} {x : Except Nat (β × Sx)} (hf : f L lim s = .ok (a, s1)) (hx : bindX f h L lim s = x) : h a L lim s1 = x := by
  rw [← hx]; unfold bindX; rw [hf]
end
end Go.Proofs.YtjipjclbhdgkoaaDoor
