
/- What the unpacking machine is in memory, and what its steps leave alone. -/

/- Contracts of the machine's number, sign, must and room. -/

/- Contract of deflate's codeOf at the fixed lengths. -/
import Derived.Test.YtpnnlhegncbfaaaGreatDoorGroupC
import Derived.Test.YtpnnlhegncbfaaaGreatDoorGroupG
import Derived.Test.YtpnnlhegncbfaaaGreatDoorGroupH
import Derived.Deep.RegionWith
import Derived.StillTailTactics
import Derived.Test.YtpnnlhegncbfaaaGreatDoorGroupF
namespace Go.Proofs.YtpnnlhegncbfaaaGreatDoor
set_option maxRecDepth 20000
open Go.RowKit

/-- What a step leaves alone: all blocks but the machine's, its reader's and its text's. -/
structure Moves (w w' : World) (g r : Nat) (v v' : Value) : Prop where
  os : w'.os = w.os
  tape : w'.tape = w.tape
  output : w'.output = w.output
  size : w.heap.size ≤ w'.heap.size
  block : ∀ k, k < w.heap.size → k ≠ g → k ≠ r → some k ≠ v.ownBlock → w'.heap[k]? = w.heap[k]?
  fresh : Fresh w v v'
theorem Moves.refl (w : World) (g r : Nat) (v : Value) : Moves w w g r v v := ⟨rfl, rfl, rfl, Nat.le_refl _, fun _ _ _ _ _ => rfl, Fresh.same _ _⟩
theorem Moves.trans {w w1 w2 : World} {g r : Nat} {v v1 v2 : Value} (h : Moves w w1 g r v v1) (h' : Moves w1 w2 g r v1 v2) : Moves w w2 g r v v2 := by
  refine ⟨h'.os.trans h.os, h'.tape.trans h.tape, h'.output.trans h.output, Nat.le_trans h.size h'.size, fun k hk h1 h2 h3 => ?_, ?_⟩
  · refine (h'.block k (Nat.lt_of_lt_of_le hk h.size) h1 h2 ?_).trans (h.block k hk h1 h2 h3)
    rcases h.fresh with h4 | ⟨j, h4, h5⟩
    · rw [h4]; exact h3
    · rw [h4]; intro e; injection e with e; omega
  · rcases h'.fresh with h4 | ⟨j, h4, h5⟩
    · rcases h.fresh with h6 | ⟨i, h6, h7⟩
      · exact .inl (h4.trans h6)
      · exact .inr ⟨i, h4.trans h6, h7⟩
    · exact .inr ⟨j, h4, Nat.le_trans h.size h5⟩
theorem Moves.grown {w w' : World} {g r : Nat} (v : Value) {q : Option Nat} (h : w.grownBy w' q) (hq : q = none ∨ q = some g ∨ q = some r ∨ q = v.ownBlock) : Moves w w' g r v v := by
  refine ⟨h.os, h.tape, h.output, h.size, fun k hk h1 h2 h3 => h.block k hk ?_, Fresh.same _ _⟩
  rcases hq with e | e | e | e
  · rw [e]; simp
  · rw [e]; intro e; injection e with e; exact h1 e
  · rw [e]; intro e; injection e with e; exact h2 e
  · rw [e]; exact h3
/-- Block a holds the code of the lengths ls, in blocks of its own behind the machine. -/
def CD (w : World) (g : Nat) (v : Value) (a : Nat) (ls : List Nat) : Prop := ∃ lo hi, HL w lo hi a ls ∧ g < lo ∧ hi ≤ w.heap.size ∧ ∀ k, v.ownBlock = some k → k < lo ∨ hi ≤ k
theorem CD.moves {w w' : World} {g r : Nat} {v v' : Value} {a : Nat} {ls : List Nat} (h : CD w g v a ls) (hm : Moves w w' g r v v') (hr : r < g) : CD w' g v' a ls := by
  obtain ⟨lo, hi, h1, h2, h3, h4⟩ := h
  refine ⟨lo, hi, fun w'' ha => h1 w'' fun k k1 k2 => (ha k k1 k2).trans (hm.block k (by omega) (by omega) (by omega) ?_), h2, Nat.le_trans h3 hm.size, ?_⟩
  · intro e; rcases h4 k e.symm with h | h <;> omega
  · rcases hm.fresh with e | ⟨j, e, h5⟩
    · intro k hk; exact h4 k (e ▸ hk)
    · intro k hk; rw [e] at hk; injection hk with hk; omega
/-- The same, in blocks below H. -/
def CDH (w : World) (H g : Nat) (v : Value) (a : Nat) (ls : List Nat) : Prop := ∃ lo hi, HL w lo hi a ls ∧ g < lo ∧ hi ≤ H ∧ ∀ k, v.ownBlock = some k → k < lo ∨ hi ≤ k
theorem CDH.cd {w : World} {H g : Nat} {v : Value} {a : Nat} {ls : List Nat} (h : CDH w H g v a ls) (hH : H ≤ w.heap.size) : CD w g v a ls := by
  obtain ⟨lo, hi, h1, h2, h3, h4⟩ := h
  exact ⟨lo, hi, h1, h2, Nat.le_trans h3 hH, h4⟩
theorem CD.cdh {w : World} {g : Nat} {v : Value} {a : Nat} {ls : List Nat} (h : CD w g v a ls) : CDH w w.heap.size g v a ls := h
theorem CDH.more {w : World} {H H' g : Nat} {v : Value} {a : Nat} {ls : List Nat} (h : CDH w H g v a ls) (hH : H ≤ H') : CDH w H' g v a ls := by
  obtain ⟨lo, hi, h1, h2, h3, h4⟩ := h
  exact ⟨lo, hi, h1, h2, Nat.le_trans h3 hH, h4⟩
theorem CDH.moves {w w' : World} {H g r : Nat} {v v' : Value} {a : Nat} {ls : List Nat} (h : CDH w H g v a ls) (hH : H ≤ w.heap.size) (hm : Moves w w' g r v v') (hr : r < g) : CDH w' H g v' a ls := by
  obtain ⟨lo, hi, h1, h2, h3, h4⟩ := h
  refine ⟨lo, hi, fun w'' ha => h1 w'' fun k k1 k2 => (ha k k1 k2).trans (hm.block k (by omega) (by omega) (by omega) ?_), h2, h3, ?_⟩
  · intro e; rcases h4 k e.symm with h | h <;> omega
  · rcases hm.fresh with e | ⟨j, e, h5⟩
    · intro k hk; exact h4 k (e ▸ hk)
    · intro k hk; rw [e] at hk; injection hk with hk; omega
/-- Another block from H on has changed. -/
theorem CDH.beyond {w w' : World} {H g : Nat} {v : Value} {a : Nat} {ls : List Nat} {q : Option Nat} (h : CDH w H g v a ls) (hH : H ≤ w.heap.size) (hg : w.grownBy w' q) (hq : ∀ b, q = some b → H ≤ b) : CDH w' H g v a ls := by
  obtain ⟨lo, hi, h1, h2, h3, h4⟩ := h
  exact ⟨lo, hi, fun w'' ha => h1 w'' fun k k1 k2 => (ha k k1 k2).trans (hg.block k (by omega) (fun e => by have := hq k e.symm; omega)), h2, h3, h4⟩
/-- The fixed codes, if they were made. -/
def FXI (w : World) (H g : Nat) (v fl fd : Value) : Prop :=
  (fl = .pointer none ∧ fd = .pointer none) ∨ ∃ a b, fl = .pointer (some ⟨a, 0, none⟩) ∧ fd = .pointer (some ⟨b, 0, none⟩) ∧ CDH w H g v a fixA ∧ CDH w H g v b fixB
theorem FXI.moves {w w' : World} {H g r : Nat} {v v' fl fd : Value} (h : FXI w H g v fl fd) (hH : H ≤ w.heap.size) (hm : Moves w w' g r v v') (hr : r < g) : FXI w' H g v' fl fd := by
  rcases h with h | ⟨a, b, h1, h2, h3, h4⟩
  · exact .inl h
  · exact .inr ⟨a, b, h1, h2, h3.moves hH hm hr, h4.moves hH hm hr⟩
theorem FXI.beyond {w w' : World} {H g : Nat} {v fl fd : Value} {q : Option Nat} (h : FXI w H g v fl fd) (hH : H ≤ w.heap.size) (hg : w.grownBy w' q) (hq : ∀ b, q = some b → H ≤ b) : FXI w' H g v fl fd := by
  rcases h with h | ⟨a, b, h1, h2, h3, h4⟩
  · exact .inl h
  · exact .inr ⟨a, b, h1, h2, h3.beyond hH hg hq, h4.beyond hH hg hq⟩
theorem FXI.more {w : World} {H H' g : Nat} {v fl fd : Value} (h : FXI w H g v fl fd) (hH : H ≤ H') : FXI w H' g v fl fd := by
  rcases h with h | ⟨a, b, h1, h2, h3, h4⟩
  · exact .inl h
  · exact .inr ⟨a, b, h1, h2, h3.more hH, h4.more hH⟩
/-- The helpers' order, which the program's table holds. -/
def Tab (w : World) : Prop := ∀ k, k < 19 → w.cell? ⟨2, k, none⟩ = some (.int .i64 (places.getD k 0 : Int))
def mcells (r : Nat) (v : Value) (lim steps : Nat) (fl fd : Value) : Array Value := #[.pointer (some ⟨r, 0, none⟩), v, .int .i64 (lim : Int), .int .i64 (steps : Int), fl, fd]
/-- Block g holds the machine, block r its reader of the bytes l, in the state s. -/
structure MS (w : World) (g r H : Nat) (A : Option Addr) (n c : Nat) (l : List UInt8) (lim : Nat) (v : Value) (s : Sx) : Prop where
  fx : ∃ fl fd, Row w g (mcells r v lim s.steps fl fd) 137 ∧ FXI w H g v fl fd
  rrow : Row w r #[.slice A n c, .int .i64 (s.pos : Int)] 158
  rd : Rd w r A n (us l)
  cap : A = none → c = 0
  form : A = none ∨ ∃ b o, A = some ⟨b, o, none⟩
  lc : n ≤ c
  le : s.pos ≤ 8 * n
  own : Own w (g + 1) v s.out
  rg : r < g
  pos : 2 < r
  tab : Tab w
  sp : s.steps ≤ s.pos
  ol : s.out.length ≤ lim
  lm : lim ≤ 1048576
  nn : n ≤ 1000000
  hs : H ≤ w.heap.size
  gh : g < H
section
variable {w w' : World} {g r H : Nat} {A : Option Addr} {n c : Nat} {l : List UInt8} {lim : Nat} {v v' : Value} {s : Sx}
theorem MS.len (h : MS w g r H A n c l lim v s) : l.length = n := by have := h.rd.1; rwa [us_length] at this
theorem MS.bits (h : MS w g r H A n c l lim v s) : (bitsL l).length = 8 * n := by rw [bitsL_length, h.len]
theorem MS.ra (h : MS w g r H A n c l lim v s) : RA w [r] r A n c l s.pos :=
  ⟨h.rrow, h.rd.rdS (Nat.le_of_lt h.rrow.lt) (by simp), h.cap, h.le, h.form, h.lc⟩
theorem MS.lt (h : MS w g r H A n c l lim v s) : g < w.heap.size := by obtain ⟨_, _, h1, _⟩ := h.fx; exact h1.lt
theorem MS.ownLt (h : MS w g r H A n c l lim v s) {k : Nat} (hk : v.ownBlock = some k) : g < k ∧ k < w.heap.size := by
  have := World.ownsRow.lt h.own k hk; omega
theorem MS.ne (h : MS w g r H A n c l lim v s) {k : Nat} (hk : k ≤ g) : some k ≠ v.ownBlock := by
  intro e; have := (h.ownLt e.symm).1; omega
theorem MS.cell0 (h : MS w g r H A n c l lim v s) : w.cell? ⟨g, 0, none⟩ = some (.pointer (some ⟨r, 0, none⟩)) := by obtain ⟨_, _, h1, _⟩ := h.fx; exact h1.cell 0
theorem MS.cell1 (h : MS w g r H A n c l lim v s) : w.cell? ⟨g, 1, none⟩ = some v := by obtain ⟨_, _, h1, _⟩ := h.fx; exact h1.cell 1
theorem MS.cell2 (h : MS w g r H A n c l lim v s) : w.cell? ⟨g, 2, none⟩ = some (.int .i64 (lim : Int)) := by obtain ⟨_, _, h1, _⟩ := h.fx; exact h1.cell 2
theorem MS.cell3 (h : MS w g r H A n c l lim v s) : w.cell? ⟨g, 3, none⟩ = some (.int .i64 (s.steps : Int)) := by obtain ⟨_, _, h1, _⟩ := h.fx; exact h1.cell 3
theorem MS.thawed (h : MS w g r H A n c l lim v s) (k : Nat) : w.frozen? ⟨g, k, none⟩ = false := by obtain ⟨_, _, h1, _⟩ := h.fx; exact h1.thawed k
theorem Tab.block (h : Tab w) (e : w'.heap[2]? = w.heap[2]?) : Tab w' := fun k hk => (World.cell?_of_block (w := w) (a := ⟨2, k, none⟩) e).trans (h k hk)
/-- Behind a step of the reader. -/
theorem MS.reader (h : MS w g r H A n c l lim v s) {p : Nat} (hR : RA w' [r] r A n c l p) (hg : w.grownBy w' (some r)) (hp : s.pos ≤ p) : MS w' g r H A n c l lim v ⟨p, s.out, s.steps⟩ := by
  obtain ⟨fl, fd, h1, h2⟩ := h.fx
  have h0 := h.pos
  have hb : Below r w w' := ⟨hg.os, hg.tape, hg.output, hg.size, fun k hk => hg.block k (Nat.lt_trans hk h.rrow.lt) (fun e => by injection e with e; omega)⟩
  refine ⟨⟨fl, fd, h1.grown hg (by intro e; injection e with e; have := h.rg; omega), h2.moves h.hs (Moves.grown (g := g) v hg (.inr (.inr (.inl rfl)))) h.rg⟩, hR.row, h.rd.below hb, h.cap, h.form, h.lc, hR.le,
    World.ownsRow.kept h.own hg (.inr (Ne.symm (h.ne (Nat.le_of_lt h.rg)))), h.rg, h.pos, h.tab.block (hb.block 2 h0), Nat.le_trans h.sp hp, h.ol, h.lm, h.nn, Nat.le_trans h.hs hg.size, h.gh⟩
theorem own_none (v : Value) : v.ownBlock = none ∨ v.ownBlock ≠ none := by cases v.ownBlock <;> simp
theorem MS.still (h : MS w g r H A n c l lim v s) (hg : w.grownBy w' none) : MS w' g r H A n c l lim v s := by
  obtain ⟨fl, fd, h1, h2⟩ := h.fx
  have hb : Below r w w' := ⟨hg.os, hg.tape, hg.output, hg.size, fun k hk => hg.block k (Nat.lt_trans hk h.rrow.lt) (by simp)⟩
  exact ⟨⟨fl, fd, h1.grown hg (by simp), h2.moves h.hs (Moves.grown (g := g) v hg (.inl rfl)) h.rg⟩, h.rrow.grown hg (by simp), h.rd.below hb, h.cap, h.form, h.lc, h.le,
    World.ownsRow.kept h.own hg (own_none v), h.rg, h.pos, h.tab.block (hb.block 2 h.pos), h.sp, h.ol, h.lm, h.nn, Nat.le_trans h.hs hg.size, h.gh⟩
/-- Another block has changed, which is none of the machine's. -/
theorem MS.beyond {q : Option Nat} (h : MS w g r H A n c l lim v s) (hg : w.grownBy w' q) (hq : ∀ b, q = some b → H ≤ b ∧ some b ≠ v.ownBlock) : MS w' g r H A n c l lim v s := by
  obtain ⟨fl, fd, h1, h2⟩ := h.fx
  have hgh := h.gh
  have hrg := h.rg
  have hne : ∀ k, k ≤ g → some k ≠ q := fun k hk e => by have := (hq k e.symm).1; omega
  have hb : Below r w w' := ⟨hg.os, hg.tape, hg.output, hg.size, fun k hk => hg.block k (Nat.lt_trans hk h.rrow.lt) (hne k (by omega))⟩
  exact ⟨⟨fl, fd, h1.grown hg (hne g (Nat.le_refl _)), h2.beyond h.hs hg (fun b e => (hq b e).1)⟩, h.rrow.grown hg (hne r (by omega)), h.rd.below hb, h.cap, h.form, h.lc, h.le,
    World.ownsRow.kept h.own hg (by
      cases hv : v.ownBlock with
      | none => exact .inl rfl
      | some k => right; intro e; exact (hq k e.symm).2 hv.symm), h.rg, h.pos, h.tab.block (hb.block 2 h.pos), h.sp, h.ol, h.lm, h.nn, Nat.le_trans h.hs hg.size, h.gh⟩
theorem MS.more {H' : Nat} (h : MS w g r H A n c l lim v s) (h1 : H ≤ H') (h2 : H' ≤ w.heap.size) : MS w g r H' A n c l lim v s := by
  obtain ⟨fl, fd, h3, h4⟩ := h.fx
  exact ⟨⟨fl, fd, h3, h4.more h1⟩, h.rrow, h.rd, h.cap, h.form, h.lc, h.le, h.own, h.rg, h.pos, h.tab, h.sp, h.ol, h.lm, h.nn, h2, Nat.lt_of_lt_of_le h.gh h1⟩
theorem Moves.beyond {w2 : World} {q : Option Nat} (h : Moves w w' g r v v') (hg : w'.grownBy w2 q) (hq : ∀ b, q = some b → w.heap.size ≤ b) : Moves w w2 g r v v' :=
  ⟨hg.os.trans h.os, hg.tape.trans h.tape, hg.output.trans h.output, Nat.le_trans h.size hg.size, fun k hk h1 h2 h3 => (hg.block k (Nat.lt_of_lt_of_le hk h.size) (fun e => by have := hq k e.symm; omega)).trans (h.block k hk h1 h2 h3), h.fresh⟩
/-- A block that was there, and isn't the text's, isn't then, either. -/
theorem Moves.apart (h : Moves w w' g r v v') {b : Nat} (hb : b < w.heap.size) (hv : some b ≠ v.ownBlock) : some b ≠ v'.ownBlock := by
  rcases h.fresh with e | ⟨j, e, hj⟩
  · rw [e]; exact hv
  · rw [e]; intro e; injection e with e; omega
theorem MS.steps (h : MS w g r H A n c l lim v s) (k : Nat) (hk : s.steps + k ≤ s.pos) (z : Int) (hz : z = ((s.steps + k : Nat) : Int)) :
    MS (w.setCell ⟨g, 3, none⟩ (.int .i64 z)) g r H A n c l lim v ⟨s.pos, s.out, s.steps + k⟩ ∧ Moves w (w.setCell ⟨g, 3, none⟩ (.int .i64 z)) g r v v := by
  subst hz
  obtain ⟨fl, fd, h1, h2⟩ := h.fx
  have hg := grown_setCell w g 3 (.int .i64 ((s.steps + k : Nat) : Int))
  have hm : Moves w (w.setCell ⟨g, 3, none⟩ (.int .i64 ((s.steps + k : Nat) : Int))) g r v v := Moves.grown v hg (.inr (.inl rfl))
  have hrg := h.rg
  have hb : Below r w (w.setCell ⟨g, 3, none⟩ (.int .i64 ((s.steps + k : Nat) : Int))) := ⟨hg.os, hg.tape, hg.output, hg.size, fun k hk => hg.block k (Nat.lt_trans hk h.rrow.lt) (fun e => by injection e with e; omega)⟩
  exact ⟨⟨⟨fl, fd, h1.set 3 _, h2.moves h.hs hm h.rg⟩, h.rrow.grown hg (fun e => by injection e with e; omega), h.rd.below hb, h.cap, h.form, h.lc, h.le,
    World.ownsRow.kept h.own hg (.inr (Ne.symm (h.ne (Nat.le_refl _)))), h.rg, h.pos, h.tab.block (hb.block 2 h.pos), hk, h.ol, h.lm, h.nn, Nat.le_trans h.hs hg.size, h.gh⟩, hm⟩
theorem MS.text {w1 : World} {out' : List UInt8} (h : MS w g r H A n c l lim v s) (hg : w.grownBy w1 v.ownBlock) (ho : Own w1 (g + 1) v' out') (hf : Fresh w v v') (hl : out'.length ≤ lim) :
    MS (w1.setCell ⟨g, 1, none⟩ v') g r H A n c l lim v' ⟨s.pos, out', s.steps⟩ ∧ Moves w (w1.setCell ⟨g, 1, none⟩ v') g r v v' := by
  obtain ⟨fl, fd, h1, h2⟩ := h.fx
  have hrg := h.rg
  have hg2 := grown_setCell w1 g 1 v'
  have hm : Moves w (w1.setCell ⟨g, 1, none⟩ v') g r v v' :=
    ⟨hg2.os.trans hg.os, hg2.tape.trans hg.tape, hg2.output.trans hg.output, Nat.le_trans hg.size hg2.size,
      fun k hk k1 k2 k3 => (hg2.block k (Nat.lt_of_lt_of_le hk hg.size) (fun e => by injection e with e; exact k1 e)).trans (hg.block k hk k3), hf⟩
  have hb : Below r w (w1.setCell ⟨g, 1, none⟩ v') := ⟨hm.os, hm.tape, hm.output, hm.size, fun k hk => hm.block k (Nat.lt_trans hk h.rrow.lt) (by omega) (by omega) (h.ne (by omega))⟩
  have h3 := h1.grown hg (h.ne (Nat.le_refl _))
  have hne : v'.ownBlock = none ∨ v'.ownBlock ≠ some g := by
    rcases hf with e | ⟨j, e, hj⟩
    · rw [e]; exact .inr (Ne.symm (h.ne (Nat.le_refl _)))
    · rw [e]; right; intro e; injection e with e; have := h.lt; omega
  exact ⟨⟨⟨fl, fd, h3.set 1 _, h2.moves h.hs hm h.rg⟩, (h.rrow.grown hg (h.ne (Nat.le_of_lt hrg))).grown hg2 (fun e => by injection e with e; omega), h.rd.below hb, h.cap, h.form, h.lc, h.le,
    World.ownsRow.kept ho hg2 hne, h.rg, h.pos, h.tab.block (hb.block 2 h.pos), h.sp, hl, h.lm, h.nn, Nat.le_trans h.hs hm.size, h.gh⟩, hm⟩
/-- What a part of the program does: as the plain part, or it throws its error. -/
def Out (w : World) (g r H : Nat) (A : Option Addr) (n c : Nat) (l : List UInt8) (lim : Nat) (v : Value) {α : Type} (x : Except Nat (α × Sx)) (P : α → Ending → World → Value → Prop) (e : Ending) (w' : World) : Prop :=
  (∃ a s' v', x = .ok (a, s') ∧ MS w' g r H A n c l lim v' s' ∧ Moves w w' g r v v' ∧ P a e w' v') ∨
  (∃ k b v', x = .error k ∧ e = .panicked (flt ⟨b, 0, none⟩) ∧ w.heap.size ≤ b ∧ w'.cell? ⟨b, 0, none⟩ = some (.int .i64 (k : Int)) ∧ Moves w w' g r v v')
def ints (a : Nat) (e : Ending) (_ : World) (_ : Value) : Prop := e = .returned (.int .i64 (a : Int))
def unit (_ : Unit) (e : Ending) (_ : World) (_ : Value) : Prop := e = .returned (.tuple #[])
/-- Something was thrown. -/
theorem Out.thrown {α : Type} {x : Except Nat (α × Sx)} {P : α → Ending → World → Value → Prop} {w1 : World} {k : Nat} (hx : x = .error k) (hm : Moves w w1 g r v v') (z : Int) (hz : z = (k : Int)) :
    Out w g r H A n c l lim v x P (.panicked (flt ⟨w1.heap.size, 0, none⟩)) (w1.alloc (.cells #[.int .i64 z, .string ⟨#[]⟩] 80)) := by
  subst hz
  refine .inr ⟨k, _, v', hx, rfl, hm.size, ?_, hm.trans (Moves.grown v' (World.grownBy_alloc w1 _ none) (.inl rfl))⟩
  exact cells_new w1 #[.int .i64 (k : Int), .string ⟨#[]⟩] 80 0 _ rfl
theorem Out.passed {α : Type} {x : Except Nat (α × Sx)} {P : α → Ending → World → Value → Prop} {w1 w2 : World} {k b : Nat} {v1 v2 : Value} (hm : Moves w w1 g r v v1) (hx : x = .error k) (hb : w1.heap.size ≤ b) (hc : w2.cell? ⟨b, 0, none⟩ = some (.int .i64 (k : Int))) (hm2 : Moves w1 w2 g r v1 v2) :
    Out w g r H A n c l lim v x P (.panicked (flt ⟨b, 0, none⟩)) w2 := .inr ⟨k, b, v2, hx, rfl, Nat.le_trans hm.size hb, hc, hm.trans hm2⟩
theorem bind_err {α β : Type} {f : X α} {h : α → X β} {L : List UInt8} {s : Sx} {k : Nat} {x : Except Nat (β × Sx)} (hf : f L lim s = .error k) (hx : bindX f h L lim s = x) : x = .error k := by
  rw [← hx]; unfold bindX; rw [hf]
theorem bind_go {α β : Type} {f : X α} {h : α → X β} {L : List UInt8} {s s1 : Sx} {a : α} {x : Except Nat (β × Sx)} (hf : f L lim s = .ok (a, s1)) (hx : bindX f h L lim s = x) : h a L lim s1 = x := by
  rw [← hx]; unfold bindX; rw [hf]
end
end Go.Proofs.YtpnnlhegncbfaaaGreatDoor
namespace Go.Proofs.YtpnnlhegncbfaaaGreatDoor
set_option maxRecDepth 20000
open Go.RowKit

variable {g r H : Nat} {A : Option Addr} {n c : Nat} {l : List UInt8} {lim : Nat} {v : Value} {s : Sx}
theorem num_err {k : Nat} {L : List UInt8} (h : L.length < s.pos + k) : numX k L lim s = .error 10 := by unfold numX; rw [if_pos h]
theorem num_fine {k : Nat} {L : List UInt8} (h : ¬ L.length < s.pos + k) : numX k L lim s = .ok (numB ((L.drop s.pos).take k), ⟨s.pos + k, s.out, s.steps⟩) := by unfold numX; rw [if_neg h]
theorem fld_bits (l : List UInt8) (p k : Nat) (h : p + k ≤ 8 * l.length) : fld (numL l) p k = numB (((bitsL l).drop p).take k) := by
  rw [numB_part (bin_bitsL l) p k (by rw [bitsL_length]; exact h), numB_bitsL]; rfl
theorem num_lt {k : Nat} {s' : Sx} {a : Nat} (h : numX k (bitsL l) lim s = .ok (a, s')) : a < 2 ^ k := by
  unfold numX at h
  split at h
  · cases h
  · rename_i hl
    injection h with h
    injection h with h1 h2
    subst h1
    rw [numB_part (bin_bitsL l) s.pos k (by omega)]
    exact Nat.mod_lt _ (Nat.two_pow_pos k)

set_option maxHeartbeats 400000 in
theorem mnum_any (k : Nat) (hk : k ≤ 16) (w : World) (hm : MS w g r H A n c l lim v s) :
    Calls Tryz.prog 99 #[.pointer (some ⟨g, 0, none⟩), .int .i64 (k : Int)] w (Out w g r H A n c l lim v (numX k (bitsL l) lim s) ints) := by
  have c0 := hm.cell0
  have HM := Lib.hid hm
  clear hm
  by_cases h : 8 * n < s.pos + k
  · have HE : RowKit.Hid (bE n s.pos (k : Int) = 10) := Lib.hid (b_end (by omega) (by simpa using h))
    have HX := Lib.hid (num_err (lim := lim) (L := bitsL l) (s := s) (k := k) (by rw [HM.out.bits]; exact h))
    rw [HX.out]
    clear h
    go_enter Tryz.func99, Tryz.ntmps99
    go_wp2_with fail
    refine (rbits_any r (k : Int) w HM.out.ra (by simp) HM.out.nn).mono ?_
    rintro e w1 ⟨rfl, hR1, hg1⟩
    rw [HE.out, show errV 10 = .iface 39 (.int .i64 10) from rfl]
    have hP : bP n s.pos (k : Int) = s.pos := by unfold bP; rw [HE.out]; rfl
    rw [hP] at hR1
    have HM1 := Lib.hid (HM.out.reader hR1 hg1 (Nat.le_refl _))
    have HG1 := Lib.hid (Moves.grown (g := g) v hg1 (.inr (.inr (.inl rfl))))
    generalize bX (numL l) n s.pos (k : Int) = xx
    clear hR1 hg1 hP
    go_wp2_with fail
    refine (pass_errno 10 w1).mono ?_
    rintro e w2 ⟨rfl, rfl⟩
    exact ⟨rfl, Out.thrown rfl HG1.out 10 rfl⟩
  · have HE : RowKit.Hid (bE n s.pos (k : Int) = 0) := Lib.hid (b_ok (by omega) (by simpa using h))
    have HX := Lib.hid (num_fine (lim := lim) (L := bitsL l) (s := s) (k := k) (by rw [HM.out.bits]; exact h))
    rw [HX.out]
    have HF : RowKit.Hid (bX (numL l) n s.pos (k : Int) = numB (((bitsL l).drop s.pos).take k)) := Lib.hid (by
      unfold bX; rw [HE.out, if_pos rfl]; exact fld_bits l s.pos k (by rw [HM.out.len]; omega))
    have hlt : numB (((bitsL l).drop s.pos).take k) < 2 ^ 16 := Nat.lt_of_lt_of_le (num_lt (s := s) (lim := lim) HX.out) (Nat.pow_le_pow_right (by decide) hk)
    generalize numB (((bitsL l).drop s.pos).take k) = y at HF hlt ⊢
    clear h HX
    go_enter Tryz.func99, Tryz.ntmps99
    go_wp2_with fail
    refine (rbits_any r (k : Int) w HM.out.ra (by simp) HM.out.nn).mono ?_
    rintro e w1 ⟨rfl, hR1, hg1⟩
    rw [HE.out, HF.out, show errV 0 = .nilIface from rfl]
    have hP : bP n s.pos (k : Int) = s.pos + k := by unfold bP; rw [HE.out]; rfl
    rw [hP] at hR1
    have HM1 := Lib.hid (HM.out.reader hR1 hg1 (Nat.le_add_right _ _))
    have HG1 := Lib.hid (Moves.grown (g := g) v hg1 (.inr (.inr (.inl rfl))))
    clear hR1 hg1 hP
    have hy : y < 65536 := hlt
    go_wp2_with fail
    refine (pass_nil w1).mono ?_
    rintro e w2 ⟨rfl, rfl⟩
    go_wp2_with fail
    go_ret
    exact .inl ⟨y, _, v, rfl, HM1.out, HG1.out, rfl⟩

theorem sign_ok {ls : List Nat} {M : List UInt8} (h : tkE ls (M.drop s.pos) = 0) : signX ls M lim s = .ok (tkS ls (M.drop s.pos), ⟨s.pos + tkN ls (M.drop s.pos), s.out, s.steps⟩) := by unfold signX; rw [if_neg (by omega)]
theorem sign_bad {ls : List Nat} {M : List UInt8} (h : tkE ls (M.drop s.pos) ≠ 0) : signX ls M lim s = .error (tkE ls (M.drop s.pos)) := by unfold signX; rw [if_pos h]

set_option maxHeartbeats 400000 in
theorem msign_any (a : Nat) (ls : List Nat) (w : World) (hm : MS w g r H A n c l lim v s) (hc : CD w g v a ls) :
    Calls Tryz.prog 118 #[.pointer (some ⟨g, 0, none⟩), .pointer (some ⟨a, 0, none⟩)] w (Out w g r H A n c l lim v (signX ls (bitsL l) lim s) ints) := by
  have c0 := hm.cell0
  have HM := Lib.hid hm
  obtain ⟨lo, hi, h1, h2, h3, h4⟩ := hc
  have HT := Lib.hid (take_any (S := [r]) (p := s.pos) hi a r ls w lo h1 (Nat.lt_trans hm.rg h2) hm.ra (by simp) h3 hm.nn)
  clear hm h1 h2 h3 h4
  by_cases h : tkE ls ((bitsL l).drop s.pos) = 0
  · have HX := Lib.hid (sign_ok (lim := lim) h)
    rw [HX.out]
    have HE := Lib.hid h
    go_enter Tryz.func118, Tryz.ntmps118
    go_wp2_with fail
    refine HT.out.mono ?_
    rintro e w1 ⟨rfl, hR1, hg1⟩
    have HM1 := Lib.hid (HM.out.reader hR1 hg1 (Nat.le_add_right _ _))
    have HG1 := Lib.hid (Moves.grown (g := g) v hg1 (.inr (.inr (.inl rfl))))
    rw [show left l s.pos = (bitsL l).drop s.pos from rfl] at HM1 ⊢
    rw [HE.out, show errV 0 = .nilIface from rfl]
    obtain ⟨y, hy⟩ : ∃ y, tkS ls ((bitsL l).drop s.pos) = y := ⟨_, rfl⟩
    have HY := Lib.hid hy
    rw [hy]
    clear hR1 hg1 HE HX h hy
    go_wp2_with fail
    refine (pass_nil w1).mono ?_
    rintro e w2 ⟨rfl, rfl⟩
    go_wp2_with fail
    go_ret
    exact .inl ⟨_, _, v, rfl, HM1.out, HG1.out, by rw [HY.out]; rfl⟩
  · have HX := Lib.hid (sign_bad (lim := lim) h)
    rw [HX.out]
    obtain ⟨k, hk⟩ : ∃ k, tkE ls ((bitsL l).drop s.pos) = k + 1 := ⟨tkE ls ((bitsL l).drop s.pos) - 1, by omega⟩
    have HE := Lib.hid hk
    clear h hk
    go_enter Tryz.func118, Tryz.ntmps118
    go_wp2_with fail
    refine HT.out.mono ?_
    rintro e w1 ⟨rfl, hR1, hg1⟩
    have HM1 := Lib.hid (HM.out.reader hR1 hg1 (Nat.le_add_right _ _))
    have HG1 := Lib.hid (Moves.grown (g := g) v hg1 (.inr (.inr (.inl rfl))))
    rw [show left l s.pos = (bitsL l).drop s.pos from rfl] at HM1 ⊢
    rw [HE.out, show errV (k + 1) = .iface 39 (.int .i64 ((k + 1 : Nat) : Int)) from rfl]
    generalize tkS ls ((bitsL l).drop s.pos) = y
    clear hR1 hg1 HX
    obtain ⟨z, hz⟩ : ∃ z : Int, ((k + 1 : Nat) : Int) = z := ⟨_, rfl⟩
    rw [hz]
    have HZ := Lib.hid hz
    clear hz
    go_wp2_with fail
    refine (pass_errno z w1).mono ?_
    rintro e w2 ⟨rfl, rfl⟩
    exact ⟨rfl, Out.thrown rfl HG1.out z (by rw [HE.out]; exact HZ.out.symm)⟩

set_option maxHeartbeats 400000 in
theorem gmust_ok (c : Int) (t : ByteArray) (w : World) (b : Bool) (hb : b = true) : Calls Tryz.prog 52 #[.bool b, .int .i64 c, .string t] w fun e w' => e = .returned (.tuple #[]) ∧ w = w' := by
  subst hb
  go_enter Tryz.func52, Tryz.ntmps52
  go_wp2_with fail
  go_end0
  exact ⟨rfl, rfl⟩
set_option maxHeartbeats 400000 in
theorem gmust_no (c : Int) (t : ByteArray) (w : World) (b : Bool) (hb : b = false) : Calls Tryz.prog 52 #[.bool b, .int .i64 c, .string t] w fun e w' => e = .panicked (flt ⟨w.heap.size, 0, none⟩) ∧ w.alloc (.cells #[.int .i64 c, .string t] 80) = w' := by
  subst hb
  go_enter Tryz.func52, Tryz.ntmps52
  go_wp2_with fail
  refine (throw_any c t w).mono ?_
  rintro e w' ⟨rfl, rfl⟩
  exact ⟨rfl, rfl, rfl⟩
set_option maxHeartbeats 400000 in
theorem must_ok (w : World) (b : Bool) (hb : b = true) : Calls Tryz.prog 115 #[.bool b] w fun e w' => e = .returned (.tuple #[]) ∧ w = w' := by
  subst hb
  go_enter Tryz.func115, Tryz.ntmps115
  go_wp2_with fail
  refine (gmust_ok 2 _ w true rfl).mono ?_
  rintro e w' ⟨rfl, rfl⟩
  go_wp2_with fail
  go_end0
  exact ⟨rfl, rfl⟩
set_option maxHeartbeats 400000 in
theorem must_no (w : World) (b : Bool) (hb : b = false) : Calls Tryz.prog 115 #[.bool b] w fun e w' => e = .panicked (flt ⟨w.heap.size, 0, none⟩) ∧ w.alloc (.cells #[.int .i64 2, .string ⟨#[]⟩] 80) = w' := by
  subst hb
  go_enter Tryz.func115, Tryz.ntmps115
  go_wp2_with fail
  refine (gmust_no 2 _ w false rfl).mono ?_
  rintro e w' ⟨rfl, rfl⟩
  exact ⟨rfl, rfl, rfl⟩
end Go.Proofs.YtpnnlhegncbfaaaGreatDoor
namespace Go.Proofs.YtpnnlhegncbfaaaGreatDoor
set_option maxRecDepth 20000
open Go.RowKit

theorem Row.ownI {w : World} {q : Nat} {cs : Array Value} (hr : Row w q cs 3) {B n : Nat} {l : List Int} (h : cs.toList = is l) (hn : l.length = n) (hm : n ≤ 1000000) (hB : B ≤ q) : OwnI w B (.slice (some ⟨q, 0, none⟩) n n) l := by
  have hs : cs.size = n := by rw [← Array.length_toList, h, is_length, hn]
  refine ⟨by rw [is_length]; omega, .inr ⟨q, n, cs, by rw [hn], hB, hr, by omega, by unfold maxLen; omega, by omega, ?_⟩⟩
  rw [h, List.take_of_length_le (by rw [is_length]; omega)]
theorem OwnI.capz {w : World} {B : Nat} {A : Option Addr} {n c : Nat} {l : List Int} (h : OwnI w B (.slice A n c) l) (hA : A = none) : c = 0 := by
  rcases h.2 with ⟨hv, _⟩ | ⟨g, cap, cur, hv, _⟩
  · injection hv
  · rw [hA] at hv; injection hv with h1; cases h1
theorem HL.keep {w w' : World} {lo hi a : Nat} {ls : List Nat} (h : HL w lo hi a ls) (hk : ∀ k, lo ≤ k → k < hi → w'.heap[k]? = w.heap[k]?) : HL w' lo hi a ls := fun w'' ha => h w'' fun k k1 k2 => (ha k k1 k2).trans (hk k k1 k2)
end Go.Proofs.YtpnnlhegncbfaaaGreatDoor
