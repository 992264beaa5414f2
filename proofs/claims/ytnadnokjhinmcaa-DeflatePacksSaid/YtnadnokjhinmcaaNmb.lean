
/- What a Code is in memory; contract of number. -/
import Derived.Test.YtnadnokjhinmcaaFst
import Derived.BigRegion
import Derived.Deep.OwnRows
namespace Go.Proofs.Ytnadnokjhinmcaa
open Go.RowKit

/-- A Code's cells. -/
def hcells (vl vc vs : Value) (c f : Nat → Nat) : Array Value := #[vl, vc, vs] ++ ia c 16 ++ ia f 17
theorem hcells_size (vl vc vs : Value) (c f : Nat → Nat) : (hcells vl vc vs c f).size = 36 := by simp [hcells, ia_size]
theorem hcells_0 (vl vc vs : Value) (c f : Nat → Nat) : (hcells vl vc vs c f)[0]? = some vl := by
  unfold hcells; rw [Array.getElem?_append_left (by simp; omega), Array.getElem?_append_left (by simp)]; rfl
theorem hcells_1 (vl vc vs : Value) (c f : Nat → Nat) : (hcells vl vc vs c f)[1]? = some vc := by
  unfold hcells; rw [Array.getElem?_append_left (by simp; omega), Array.getElem?_append_left (by simp)]; rfl
theorem hcells_2 (vl vc vs : Value) (c f : Nat → Nat) : (hcells vl vc vs c f)[2]? = some vs := by
  unfold hcells; rw [Array.getElem?_append_left (by simp; omega), Array.getElem?_append_left (by simp)]; rfl
theorem hcells_c (vl vc vs : Value) (c f : Nat → Nat) {k : Nat} (h : k < 16) : (hcells vl vc vs c f)[3 + k]? = some (.int .i64 (c k : Int)) := by
  unfold hcells
  rw [Array.getElem?_append_left (by simp [ia_size]; omega), Array.getElem?_append_right (by simp)]
  show (ia c 16)[3 + k - 3]? = _
  rw [Nat.add_sub_cancel_left, ia_at _ h]
theorem hcells_f (vl vc vs : Value) (c f : Nat → Nat) {k : Nat} (h : k < 17) : (hcells vl vc vs c f)[19 + k]? = some (.int .i64 (f k : Int)) := by
  unfold hcells
  rw [Array.getElem?_append_right (by simp [ia_size])]
  have : 19 + k - (#[vl, vc, vs] ++ ia c 16).size = k := by simp [ia_size]
  rw [this, ia_at _ h]
theorem hcells_set1 (vl vc vs : Value) (c f : Nat → Nat) (v : Value) : (hcells vl vc vs c f).setIfInBounds 1 v = hcells vl v vs c f := by
  unfold hcells
  rw [Array.setIfInBounds_append_left (by simp; omega), Array.setIfInBounds_append_left (by simp)]; rfl
theorem hcells_set2 (vl vc vs : Value) (c f : Nat → Nat) (v : Value) : (hcells vl vc vs c f).setIfInBounds 2 v = hcells vl vc v c f := by
  unfold hcells
  rw [Array.setIfInBounds_append_left (by simp; omega), Array.setIfInBounds_append_left (by simp)]; rfl
theorem Rd.ia {w : World} {B : Nat} {A : Option Addr} {n : Nat} {f : Nat → Nat} (h : Rd w B A n (Go.Proofs.Ytnadnokjhinmcaa.ia f n).toList) {k : Nat} (hk : k < n) :
    ∃ b o, A = some ⟨b, o, none⟩ ∧ b < B ∧ w.cell? ⟨b, o + k, none⟩ = some (.int .i64 (f k : Int)) := by
  obtain ⟨b, o, rfl, hb, hc⟩ := h.2 (by omega)
  exact ⟨b, o, rfl, hb, hc k _ (by rw [Array.getElem?_toList, ia_at _ hk])⟩

/-- The starts up to a length. -/
def stTo (c : Nat → Nat) (k : Nat) : Nat → Nat := fun j => if j ≤ k then st c j else 0
theorem stTo_at (c : Nat → Nat) (k : Nat) : stTo c k k = st c k := by simp [stTo]
theorem stTo_more (c : Nat → Nat) {k : Nat} (h : 1 ≤ k) : stTo c (k + 1) = upd (stTo c k) (k + 1) (st c k + c k) := by
  funext j
  unfold stTo upd
  by_cases h1 : j = k + 1
  · subst h1; simp [st_succ c h]
  · rw [if_neg h1]
    show _ = if j ≤ k then st c j else 0
    by_cases h2 : j ≤ k
    · rw [if_pos h2, if_pos (by omega)]
    · rw [if_neg h2, if_neg (by omega)]
/-- A slice that lies below G, and not in block g. -/
def Far (w : World) (g G : Nat) (A : Option Addr) (n : Nat) (xs : List Value) : Prop :=
  xs.length = n ∧ (0 < n → ∃ b o, A = some ⟨b, o, none⟩ ∧ b ≠ g ∧ b < G ∧ ∀ j u, xs[j]? = some u → w.cell? ⟨b, o + j, none⟩ = some u)
theorem Far.at {w : World} {g G : Nat} {A : Option Addr} {n : Nat} {f : Nat → Nat} (h : Far w g G A n (ia f n).toList) {k : Nat} (hk : k < n) :
    ∃ b o, A = some ⟨b, o, none⟩ ∧ w.cell? ⟨b, o + k, none⟩ = some (.int .i64 (f k : Int)) := by
  obtain ⟨b, o, rfl, _, _, hc⟩ := h.2 (by omega)
  exact ⟨b, o, rfl, hc k _ (by rw [Array.getElem?_toList, ia_at _ hk])⟩
theorem Far.grown {w w' : World} {g G : Nat} {A : Option Addr} {n : Nat} {xs : List Value} {r : Option Nat} (h : Far w g G A n xs) (hg : w.grownBy w' r) (hG : G ≤ w.heap.size) (hr : ∀ k, r = some k → k = g ∨ G ≤ k) : Far w' g G A n xs := by
  refine ⟨h.1, fun hn => ?_⟩
  obtain ⟨b, o, rfl, hb, hlt, hc⟩ := h.2 hn
  exact ⟨b, o, rfl, hb, hlt, fun j u hu => (World.cell?_of_block (w := w) (a := ⟨b, o + j, none⟩) (hg.block b (by omega) (fun e => by rcases hr b e.symm with h1 | h1 <;> omega))).trans (hc j u hu)⟩

/-- What number's memory is: the Code in block g, the starts in block G. -/
structure NmbS (w wr : World) (g G : Nat) (vl : Value) (A : Option Addr) (l : List Nat) (st : Nat → Nat) : Prop where
  code : Row wr g (hcells vl (.slice none 0 0) (.slice none 0 0) (cnt l) (fst (cnt l))) 113
  far : Far wr g G A l.length (ia (lenAt l) l.length).toList
  starts : Row wr G (ia st 16) 102
  lt : g < G
  size : wr.heap.size = G + 1
  keep : w.grownBy wr (some g)
theorem NmbS.drew {w wr : World} {g G : Nat} {vl : Value} {A : Option Addr} {l : List Nat} {s : Nat → Nat} (h : NmbS w wr g G vl A l s) : NmbS w wr.drew g G vl A l s :=
  ⟨h.code, h.far, h.starts, h.lt, h.size, grown_drew h.keep⟩
theorem NmbS.set {w wr : World} {g G : Nat} {vl : Value} {A : Option Addr} {l : List Nat} {s : Nat → Nat} (h : NmbS w wr g G vl A l s) (hG : G = w.heap.size) (i v : Nat) (z : Int) (hz : z = (v : Int)) : NmbS w (wr.setCell ⟨G, i, none⟩ (.int .i64 z)) g G vl A l (upd s i v) :=
  ⟨h.code.other (by have := h.lt; omega) _ _, h.far.grown (grown_setCell _ _ _ _) (by have := h.size; omega) (fun k hk => by injection hk with hk; omega), h.starts.iaSet i v z hz, h.lt, by have := h.size; simpa [World.setCell] using this,
    ⟨h.keep.os, h.keep.tape, h.keep.output, by have := h.keep.size; simpa [World.setCell] using this, fun k hk hne => (heap_setCell_other wr ⟨G, i, none⟩ k _ (by show k ≠ G; omega)).trans (h.keep.block k hk hne)⟩⟩

theorem makeI_run (m : Nat) (hm : m ≤ 1000000) (w : World) : (Instr.makeSlice 46 (.int .i64 (m : Int)) (.int .i64 (m : Int))).run Try.prog w = .ok (.slice (some ⟨w.heap.size, 0, none⟩) m m) (w.alloc (.cells (ia (fun _ => 0) m) 3)) := by
  rw [← zeros_ia]
  exact run_make_row' 46 3 (.int .i64 0) 8 Try.underlying46 info3 rfl .i64 .i64 m (by omega) (by omega) w
/-- make([]int, T) -/
theorem makeI {ops : Array Oper} {rest : List Oper} {o : Oper} {a : Act} {Q : Exit → Act → World → Prop} (w0 : World) (hgd : o.guard = none) (l c : Operand)
    (ho : o.op = Op.makeSlice 46 l c) (T : Nat) (hl : a.eval l = .int .i64 (T : Int)) (hc : a.eval c = .int .i64 (T : Int)) (h1 : T ≤ 1000000)
    (h : ∀ w', Row w' w0.heap.size (ia (fun _ => 0) T) 3 → w0.grownBy w' none → w'.heap.size = w0.heap.size + 1 → wpList Try.prog ops Q rest (a.put o.dst (.slice (some ⟨w0.heap.size, 0, none⟩) T T)) w') :
    wpList Try.prog ops Q (o :: rest) a w0 := by
  refine wpList_plain hgd fun K hK' => ?_
  unfold Oper.wp
  simp [execOp, ho, hl, hc, makeI_run T h1 w0, Result.andThen]
  exact hK' _ _ (h _ (heap_alloc_new w0 _) (World.grownBy_alloc w0 _ _) (by simp))

/-- The same with the codes' row, and then the signs'. -/
structure NmbA (w wr : World) (g G : Nat) (vl vc vs : Value) (A : Option Addr) (l : List Nat) (cd : Nat → Nat) : Prop where
  code : Row wr g (hcells vl vc vs (cnt l) (fst (cnt l))) 113
  far : Far wr g G A l.length (ia (lenAt l) l.length).toList
  starts : Row wr G (ia (st (cnt l)) 16) 102
  codes : Row wr (G + 1) (ia cd l.length) 3
  lt : g < G
  size : G + 2 ≤ wr.heap.size
  keep : w.grownBy wr (some g)
theorem NmbA.drew {w wr : World} {g G : Nat} {vl vc vs : Value} {A : Option Addr} {l : List Nat} {s : Nat → Nat} (h : NmbA w wr g G vl vc vs A l s) : NmbA w wr.drew g G vl vc vs A l s :=
  ⟨h.code, h.far, h.starts, h.codes, h.lt, h.size, grown_drew h.keep⟩
theorem NmbA.grown {w wr wr' : World} {g G : Nat} {vl vc vs : Value} {A : Option Addr} {l : List Nat} {s : Nat → Nat} {r : Option Nat} (h : NmbA w wr g G vl vc vs A l s) (hG : G = w.heap.size) (hg : wr.grownBy wr' r) (hr : ∀ k, r = some k → G + 2 ≤ k) : NmbA w wr' g G vl vc vs A l s :=
  ⟨h.code.grown hg (fun e => by have := hr g e.symm; have := h.lt; omega), h.far.grown hg (by have := h.size; omega) (fun k hk => by have := hr k hk; omega), h.starts.grown hg (fun e => by have := hr G e.symm; omega),
    h.codes.grown hg (fun e => by have := hr _ e.symm; omega), h.lt, Nat.le_trans h.size hg.size,
    ⟨hg.os.trans h.keep.os, hg.tape.trans h.keep.tape, hg.output.trans h.keep.output, Nat.le_trans h.keep.size hg.size, fun k hk hne => (hg.block k (by have := h.size; omega) (fun e => by have := hr k e.symm; omega)).trans (h.keep.block k hk hne)⟩⟩
theorem NmbA.setV {w wr : World} {g G : Nat} {vl vc vs : Value} {A : Option Addr} {l : List Nat} {s : Nat → Nat} (h : NmbA w wr g G vl vc vs A l s) (v : Value) : NmbA w (wr.setCell ⟨g, 2, none⟩ v) g G vl vc v A l s :=
  ⟨by have := h.code.set 2 v; rwa [hcells_set2] at this, h.far.grown (grown_setCell _ _ _ _) (by have := h.size; omega) (fun k hk => by injection hk with hk; exact .inl hk.symm), h.starts.other (by have := h.lt; omega) _ _,
    h.codes.other (by have := h.lt; omega) _ _, h.lt, by have := h.size; simpa [World.setCell] using this,
    ⟨h.keep.os, h.keep.tape, h.keep.output, by have := h.keep.size; simpa [World.setCell] using this, fun k hk hne => (heap_setCell_other wr ⟨g, 2, none⟩ k _ (fun e => hne (by rw [show k = g from e]))).trans (h.keep.block k hk hne)⟩⟩

theorem NmbA.setCodes {w wr : World} {g G : Nat} {vl vc vs : Value} {A : Option Addr} {l : List Nat} {s : Nat → Nat} (h : NmbA w wr g G vl vc vs A l s) (hG : G = w.heap.size) (i v : Nat) (z : Int) (hz : z = (v : Int)) : NmbA w (wr.setCell ⟨G + 1, i, none⟩ (.int .i64 z)) g G vl vc vs A l (upd s i v) :=
  ⟨h.code.other (by have := h.lt; omega) _ _, h.far.grown (grown_setCell _ _ _ _) (by have := h.size; omega) (fun k hk => by injection hk with hk; omega), h.starts.other (by omega) _ _,
    h.codes.iaSet i v z hz, h.lt, by have := h.size; simpa [World.setCell] using this,
    ⟨h.keep.os, h.keep.tape, h.keep.output, by have := h.keep.size; simpa [World.setCell] using this, fun k hk hne => (heap_setCell_other wr ⟨G + 1, i, none⟩ k _ (by show k ≠ G + 1; omega)).trans (h.keep.block k hk hne)⟩⟩
/-- All of it: the signs' row and how many codes of each length were given. -/
structure NmbM (w wr : World) (g G : Nat) (A : Option Addr) (n cl m : Nat) (l : List Nat) (cd sg gv : Nat → Nat) : Prop where
  base : NmbA w wr g G (.slice A n cl) (.slice (some ⟨G + 1, 0, none⟩) n n) (.slice (some ⟨G + 2, 0, none⟩) m m) A l cd
  signs : Row wr (G + 2) (ia sg m) 3
  given : Row wr (G + 3) (ia gv 16) 102
theorem NmbM.drew {w wr : World} {g G : Nat} {A : Option Addr} {n cl m : Nat} {l : List Nat} {cd sg gv : Nat → Nat} (h : NmbM w wr g G A n cl m l cd sg gv) : NmbM w wr.drew g G A n cl m l cd sg gv := ⟨h.base.drew, h.signs, h.given⟩
theorem NmbM.setCodes {w wr : World} {g G : Nat} {A : Option Addr} {n cl m : Nat} {l : List Nat} {cd sg gv : Nat → Nat} (h : NmbM w wr g G A n cl m l cd sg gv) (hG : G = w.heap.size) (i v : Nat) (z : Int) (hz : z = (v : Int)) :
    NmbM w (wr.setCell ⟨G + 1, i, none⟩ (.int .i64 z)) g G A n cl m l (upd cd i v) sg gv := ⟨h.base.setCodes hG i v z hz, h.signs.other (by omega) _ _, h.given.other (by omega) _ _⟩
theorem NmbM.setSigns {w wr : World} {g G : Nat} {A : Option Addr} {n cl m : Nat} {l : List Nat} {cd sg gv : Nat → Nat} (h : NmbM w wr g G A n cl m l cd sg gv) (hG : G = w.heap.size) (i v : Nat) (z : Int) (hz : z = (v : Int)) :
    NmbM w (wr.setCell ⟨G + 2, i, none⟩ (.int .i64 z)) g G A n cl m l cd (upd sg i v) gv := ⟨h.base.grown hG (grown_setCell _ _ _ _) (fun k hk => by injection hk with hk; omega), h.signs.iaSet i v z hz, h.given.other (by omega) _ _⟩
theorem NmbM.setGiven {w wr : World} {g G : Nat} {A : Option Addr} {n cl m : Nat} {l : List Nat} {cd sg gv : Nat → Nat} (h : NmbM w wr g G A n cl m l cd sg gv) (hG : G = w.heap.size) (i v : Nat) (z : Int) (hz : z = (v : Int)) :
    NmbM w (wr.setCell ⟨G + 3, i, none⟩ (.int .i64 z)) g G A n cl m l cd sg (upd gv i v) := ⟨h.base.grown hG (grown_setCell _ _ _ _) (fun k hk => by injection hk with hk; omega), h.signs.other (by omega) _ _, h.given.iaSet i v z hz⟩

def codeTo (l : List Nat) (k : Nat) : Nat → Nat := fun j => if j < k then codeAt l j else 0
def givTo (l : List Nat) (k : Nat) : Nat → Nat := fun j => if j = 0 then 0 else cnt (l.take k) j
theorem codeTo_more (l : List Nat) (k : Nat) : codeTo l (k + 1) = upd (codeTo l k) k (codeAt l k) := by
  funext j
  unfold codeTo upd
  by_cases h1 : j = k
  · subst h1; simp
  · rw [if_neg h1]
    show _ = if j < k then codeAt l j else 0
    by_cases h2 : j < k
    · rw [if_pos h2, if_pos (by omega)]
    · rw [if_neg h2, if_neg (by omega)]
theorem codeTo_none {l : List Nat} {k : Nat} (h : lenAt l k = 0) : codeTo l (k + 1) = codeTo l k := by
  rw [codeTo_more, code_ne_zero h]
  funext j
  by_cases h1 : j = k
  · subst h1; rw [upd_same]; unfold codeTo; rw [if_neg (by omega)]
  · rw [upd_ne _ _ h1]
theorem givTo_more {l : List Nat} {k : Nat} (hk : k < l.length) (h : lenAt l k ≠ 0) : givTo l (k + 1) = upd (givTo l k) (lenAt l k) (rank l k + 1) := by
  funext j
  unfold givTo upd
  by_cases h1 : j = lenAt l k
  · subst h1; rw [if_neg h, if_pos rfl, cnt_take_succ hk, if_pos rfl]; rfl
  · rw [if_neg h1]
    show _ = if j = 0 then 0 else cnt (l.take k) j
    by_cases h2 : j = 0
    · rw [if_pos h2, if_pos h2]
    · rw [if_neg h2, if_neg h2, cnt_take_succ hk, if_neg (Ne.symm h1), Nat.add_zero]
theorem givTo_none {l : List Nat} {k : Nat} (hk : k < l.length) (h : lenAt l k = 0) : givTo l (k + 1) = givTo l k := by
  funext j
  unfold givTo
  by_cases h2 : j = 0
  · rw [if_pos h2, if_pos h2]
  · rw [if_neg h2, if_neg h2, cnt_take_succ hk, if_neg (by rw [h]; exact Ne.symm h2), Nat.add_zero]
theorem givTo_at {l : List Nat} {k : Nat} (h : lenAt l k ≠ 0) : givTo l k (lenAt l k) = rank l k := by unfold givTo; rw [if_neg h]; rfl
/-- The signs up to k stand where they must. -/
def SgOK (l : List Nat) (k : Nat) (sg : Nat → Nat) : Prop := ∀ s, s < k → lenAt l s ≠ 0 → sg (posAt l s) = s
theorem SgOK.more {l : List Nat} {k : Nat} {sg : Nat → Nat} (h : SgOK l k sg) (hv : lenAt l k ≠ 0) : SgOK l (k + 1) (upd sg (posAt l k) k) := fun s hs h0 => by
  rcases Nat.lt_or_ge s k with h1 | h1
  · rw [upd_ne _ _ (pos_ne (by omega) h0 hv)]; exact h s h1 h0
  · obtain rfl : s = k := by omega
    exact upd_same _ _ _
theorem SgOK.none {l : List Nat} {k : Nat} {sg : Nat → Nat} (h : SgOK l k sg) (hv : lenAt l k = 0) : SgOK l (k + 1) sg := fun s hs h0 => by
  rcases Nat.lt_or_ge s k with h1 | h1
  · exact h s h1 h0
  · obtain rfl : s = k := by omega
    exact absurd hv h0

/-- Block g holds the code of the lengths l; all that belongs to it lies below B. -/
structure HC (w : World) (B g : Nat) (l : List Nat) : Prop where
  lt : g < B
  low : Low l
  ok : okF (cnt l)
  len : l.length ≤ 320
  mem : ∃ Al cl Ac cc As cs sg, Row w g (hcells (.slice Al l.length cl) (.slice Ac l.length cc) (.slice As (st (cnt l) 16) cs) (cnt l) (fst (cnt l))) 113 ∧ Rd w B Al l.length (ia (lenAt l) l.length).toList ∧
    Rd w B Ac l.length (ia (codeAt l) l.length).toList ∧ Rd w B As (st (cnt l) 16) (ia sg (st (cnt l) 16)).toList ∧ SgOK l l.length sg
theorem HC.below {w w' : World} {B g : Nat} {l : List Nat} (h : HC w B g l) (hb : Below B w w') : HC w' B g l := by
  obtain ⟨Al, cl, Ac, cc, As, cs, sg, h1, h2, h3, h4, h5⟩ := h.mem
  exact ⟨h.lt, h.low, h.ok, h.len, Al, cl, Ac, cc, As, cs, sg, h1.below hb h.lt, h2.below hb, h3.below hb, h4.below hb, h5⟩
theorem HC.more {w : World} {B B' g : Nat} {l : List Nat} (h : HC w B g l) (hb : B ≤ B') : HC w B' g l := by
  obtain ⟨Al, cl, Ac, cc, As, cs, sg, h1, h2, h3, h4, h5⟩ := h.mem
  exact ⟨Nat.lt_of_lt_of_le h.lt hb, h.low, h.ok, h.len, Al, cl, Ac, cc, As, cs, sg, h1, h2.more hb, h3.more hb, h4.more hb, h5⟩
/-- The code stands in whatever world holds the blocks from lo on as they are. -/
def HL (w : World) (lo B g : Nat) (l : List Nat) : Prop := ∀ w', (∀ k, lo ≤ k → k < B → w'.heap[k]? = w.heap[k]?) → HC w' B g l
theorem Row.agree {w w' : World} {lo B g : Nat} {cs : Array Value} {t : TypeId} (h : Row w g cs t) (ha : ∀ k, lo ≤ k → k < B → w'.heap[k]? = w.heap[k]?) (h1 : lo ≤ g) (h2 : g < B) : Row w' g cs t := by
  unfold Row; rw [ha g h1 h2]; exact h
theorem Rd.agree {w w' : World} {lo B : Nat} {A : Option Addr} {n : Nat} {xs : List Value} (h : Rd w B A n xs) (ha : ∀ k, lo ≤ k → k < B → w'.heap[k]? = w.heap[k]?) (h1 : ∀ b o, A = some ⟨b, o, none⟩ → lo ≤ b) : Rd w' B A n xs := by
  refine ⟨h.1, fun hn => ?_⟩
  obtain ⟨b, o, rfl, hlt, hc⟩ := h.2 hn
  exact ⟨b, o, rfl, hlt, fun j u hu => (World.cell?_of_block (w := w) (a := ⟨b, o + j, none⟩) (ha b (h1 b o rfl) hlt)).trans (hc j u hu)⟩
theorem Far.rd {w : World} {g G B : Nat} {A : Option Addr} {n : Nat} {xs : List Value} (h : Far w g G A n xs) (hB : G ≤ B) : Rd w B A n xs := by
  refine ⟨h.1, fun hn => ?_⟩
  obtain ⟨b, o, rfl, _, hlt, hc⟩ := h.2 hn
  exact ⟨b, o, rfl, by omega, hc⟩

set_option maxHeartbeats 2000000 in
set_option maxRecDepth 10000 in
theorem number_any (g : Nat) (A : Option Addr) (n cl : Nat) (l : List Nat) (w : World) (hrow : Row w g (hcells (.slice A n cl) (.slice none 0 0) (.slice none 0 0) (cnt l) (fst (cnt l))) 113)
    (hfar : Far w g w.heap.size A n (ia (lenAt l) n).toList) (hn : l.length = n) (hn3 : n ≤ 320) (hlow : Low l) (hok : okF (cnt l)) :
    Calls Try.prog 67 #[.pointer (some ⟨g, 0, none⟩)] w fun e w' => e = .returned (.tuple #[]) ∧ (HC w' w'.heap.size g l ∧ ∀ lo, lo ≤ g → (∀ b o, A = some ⟨b, o, none⟩ → lo ≤ b) → HL w' lo w'.heap.size g l) ∧ w.grownBy w' (some g) := by
  have HROW := Lib.hid hrow
  have HFAR := Lib.hid hfar
  have HN := Lib.hid hn
  have HLOW := Lib.hid hlow
  have HOK := Lib.hid hok
  clear hrow hfar hn hlow hok
  go_enter Try.func67, Try.ntmps67
  go_upto_region 0 with fail
  go_step
  refine alloc_row rfl 102 rfl _ 16 info114 ?_
  intro w1 r1 g1 s1
  have hlt := HROW.out.lt
  have HI : RowKit.Hid (NmbS w w1 g w.heap.size (.slice A n cl) A l (stTo (cnt l) 1)) := Lib.hid ⟨HROW.out.grown g1 (by simp), by rw [HN.out]; exact HFAR.out.grown g1 (Nat.le_refl _) (fun _ h => by cases h), by
      have : ia (stTo (cnt l) 1) 16 = ia (fun _ => 0) 16 := ia_congr fun i _ => by
        unfold stTo
        rcases i with _ | _ | i
        · rfl
        · rfl
        · rw [if_neg (by omega)]
      rw [this]; exact r1, hlt, s1, ⟨g1.os, g1.tape, g1.output, g1.size, fun k hk _ => g1.block k hk (by simp)⟩⟩
  have hne : g ≠ w.heap.size := by omega
  clear r1 g1 s1 hlt HROW HFAR
  generalize hG : w.heap.size = G at HI hne ⊢
  have HG := Lib.hid hG.symm
  clear hG
  have HC : RowKit.Hid (∀ k, cnt l k ≤ 320) := Lib.hid (fun k => Nat.le_trans (cnt_le l k) (by rw [HN.out]; exact hn3))
  have HSB : RowKit.Hid (∀ k, st (cnt l) k ≤ 1000 * k) := Lib.hid (fun k => st_bound (fun j => Nat.le_trans (HC.out j) (by decide)) k)
  go_wp2_with fail
  go_loopw [3] (fun i wr => ∃ j : Nat, 1 ≤ j ∧ j ≤ 15 ∧ i = .int .i64 ((j : Int) + 1) ∧ NmbS w wr g G (.slice A n cl) A l (stTo (cnt l) j)) (fun i _ => 16 - (intOf i).toNat)
  case atStart => exact ⟨1, by omega, by omega, rfl, HI.out⟩
  case round =>
    obtain ⟨j, hj1, hj, rfl, hI⟩ := hrel
    have HI := Lib.hid hI
    clear hI
    by_cases hj15 : j < 15
    · have hd : decide ((j : Int) + 1 ≤ 15) = true := decide_eq_true (by omega)
      have c1 := HI.out.starts.ia (show j < 16 by omega)
      rw [stTo_at] at c1
      have c2 := HI.out.code.cell (3 + j)
      rw [hcells_c _ _ _ _ _ (by omega)] at c2
      have c3 := HI.out.starts.ia (show j + 1 < 16 by omega)
      have c4 := HI.out.starts.thawed (j + 1)
      have HM := Lib.hid (stTo_more (cnt l) hj1)
      have hb1 := HSB.out j
      have hb2 := HC.out j
      generalize st (cnt l) j = S at HM hb1 c1
      generalize cnt l j = C at HM hb2 c2
      have hS : S ≤ 15000 := by omega
      clear hb1
      go_wp2_with fail
      go_region
      have HI2 := Lib.hid ((HI.out.set HG.out (j + 1) (S + C) ((S : Int) + (C : Int)) (by omega)).drew)
      rw [← HM.out] at HI2
      generalize (World.setCell _ _ _).drew = w3 at HI2 ⊢
      clear HI HM c1 c2 c3 c4
      go_wp2_with fail
      go_roundw
      case rel => exact ⟨j + 1, by omega, by omega, by simp, HI2.out⟩
      case measure => simp [intOf]; omega
    · obtain rfl : j = 15 := by omega
      have hd : decide (((15 : Nat) : Int) + 1 ≤ 15) = false := rfl
      have c0 := HI.out.code.cell 0
      rw [hcells_0] at c0
      have c1 := HI.out.code.cell 1
      rw [hcells_1] at c1
      have hst : ia (stTo (cnt l) 15) 16 = ia (st (cnt l)) 16 := ia_congr fun i hi => by unfold stTo; rw [if_pos (by omega)]
      have hstarts := HI.out.starts
      rw [hst] at hstarts
      have HST := Lib.hid hstarts
      clear hstarts hst
      go_wp2_with (with_reducible refine makeI _ rfl _ _ rfl n rfl rfl (by omega) ?_)
      intro w2 r2 g2 s2
      have hsz := HI.out.size
      have hf1 := (HI.out.code.grown g2 (by simp)).thawed 1
      have c1' := (HI.out.code.grown g2 (by simp)).cell 1
      rw [hcells_1] at c1'
      have HA := Lib.hid (show NmbA w (w2.setCell ⟨g, 1, none⟩ (.slice (some ⟨G + 1, 0, none⟩) n n)) g G (.slice A n cl) (.slice (some ⟨G + 1, 0, none⟩) n n) (.slice none 0 0) A l (fun _ => 0) from
        ⟨by have := (HI.out.code.grown g2 (by simp)).set 1 (.slice (some ⟨G + 1, 0, none⟩) n n); rwa [hcells_set1] at this,
          (HI.out.far.grown g2 (by omega) (fun _ h => by cases h)).grown (grown_setCell _ _ _ _) (by omega) (fun k hk => by injection hk with hk; exact .inl hk.symm),
          (HST.out.grown g2 (by simp)).other (by have := HI.out.lt; omega) _ _,
          by rw [← hsz, HN.out]; exact r2.other (by have := HI.out.lt; omega) _ _, HI.out.lt, by simp [World.setCell]; omega,
          ⟨g2.os.trans HI.out.keep.os, g2.tape.trans HI.out.keep.tape, g2.output.trans HI.out.keep.output, by have := HI.out.keep.size; simp [World.setCell]; omega, fun k hk hne => (heap_setCell_other w2 ⟨g, 1, none⟩ k _ (fun e => hne (by rw [show k = g from e]))).trans ((g2.block k (by have := HI.out.keep.size; omega) (by simp)).trans (HI.out.keep.block k hk hne))⟩⟩)
      have HS3 : RowKit.Hid ((w2.setCell ⟨g, 1, none⟩ (.slice (some ⟨G + 1, 0, none⟩) n n)).heap.size = G + 2) := Lib.hid (by simp [World.setCell]; omega)
      rw [hsz]
      clear HI r2 g2 s2 hsz c0 c1 HST
      go_wp2_with fail
      generalize w2.setCell _ _ = w3 at HA HS3 ⊢
      have k0 := HA.out.code.cell 0
      rw [hcells_0] at k0
      have k2 := HA.out.code.cell 2
      rw [hcells_2] at k2
      have k3 : w3.cell? ⟨g, 3, none⟩ = some (.int .i64 (cnt l 0 : Int)) := (HA.out.code.cell (3 + 0)).trans (hcells_c _ _ _ _ _ (by decide))
      have k4 := HA.out.code.thawed 2
      obtain ⟨m, hm⟩ : ∃ m, st (cnt l) 16 = m := ⟨_, rfl⟩
      have htot := st_total l HLOW.out
      rw [HN.out, hm] at htot
      have hsub : (n : Int) - (cnt l 0 : Int) = (m : Int) := by omega
      have HM := Lib.hid hm
      have HT := Lib.hid htot
      have hmk := makeI_run m (by omega)
      have hm3 : m ≤ 320 := by omega
      have hc3 := HC.out 0
      generalize cnt l 0 = Z at k3 hsub hc3
      have hgl : g < w3.heap.size := HA.out.code.lt
      clear hm htot
      go_region
      have HB2 : RowKit.Hid (NmbA w (((w3.setCell ⟨g, 2, none⟩ (.slice (some ⟨w3.heap.size, 0, none⟩) m m)).alloc (.cells (ia (fun _ => 0) m) 3)).drew) g G (.slice A n cl) (.slice (some ⟨G + 1, 0, none⟩) n n) (.slice (some ⟨w3.heap.size, 0, none⟩) m m) A l (fun _ => 0)) :=
        Lib.hid ((HA.out.setV _).grown HG.out (World.grownBy_alloc _ _ none) (fun k hk => by cases hk)).drew
      have HR2 : RowKit.Hid (Row (((w3.setCell ⟨g, 2, none⟩ (.slice (some ⟨w3.heap.size, 0, none⟩) m m)).alloc (.cells (ia (fun _ => 0) m) 3)).drew) (G + 2) (ia (fun _ => 0) m) 3) :=
        Lib.hid (by have := Row.new (w3.setCell ⟨g, 2, none⟩ (.slice (some ⟨w3.heap.size, 0, none⟩) m m)) (ia (fun _ => 0) m) 3; rw [show (w3.setCell ⟨g, 2, none⟩ (.slice (some ⟨w3.heap.size, 0, none⟩) m m)).heap.size = G + 2 by rw [← HS3.out]; simp [World.setCell]] at this; exact this)
      have HS4 : RowKit.Hid ((((w3.setCell ⟨g, 2, none⟩ (.slice (some ⟨w3.heap.size, 0, none⟩) m m)).alloc (.cells (ia (fun _ => 0) m) 3)).drew).heap.size = G + 3) := Lib.hid (by show ((w3.setCell _ _).alloc _).heap.size = _; have := HS3.out; simp [World.setCell]; omega)
      generalize ((w3.setCell ⟨g, 2, none⟩ (.slice (some ⟨w3.heap.size, 0, none⟩) m m)).alloc (.cells (ia (fun _ => 0) m) 3)).drew = w4 at HB2 HR2 HS4 ⊢
      rw [HS3.out] at HB2 ⊢
      clear HA HS3 k0 k2 k3 k4 hsub hmk hc3 hgl
      go_wp2_with (with_reducible refine halt_alloc 102 ?_)
      refine Lib.hid ?_
      refine alloc_row rfl 102 rfl _ 16 info114 ?_
      intro w5 r5 g5 s5
      have HM5 : RowKit.Hid (NmbM w w5 g G A n cl m l (codeTo l 0) (fun _ => 0) (givTo l 0)) := Lib.hid ⟨by
          have : codeTo l 0 = fun _ => 0 := by funext j; unfold codeTo; rw [if_neg (by omega)]
          rw [this]; exact HB2.out.grown HG.out g5 (fun _ h => by cases h), HR2.out.grown g5 (by simp), by
          have : givTo l 0 = fun _ => 0 := by funext j; unfold givTo; split <;> rfl
          rw [this, ← HS4.out]; exact r5⟩
      rw [HS4.out]
      clear HB2 HR2 HS4 r5 g5 s5
      have k0 := HM5.out.base.code.cell 0
      rw [hcells_0] at k0
      go_wp2_with fail
      clear k0
      go_loopw [54] (fun i wr => ∃ (k : Nat) (sg : Nat → Nat), k ≤ n ∧ i = .int .i64 (k : Int) ∧ NmbM w wr g G A n cl m l (codeTo l k) sg (givTo l k) ∧ SgOK l k sg) (fun i _ => n - (intOf i).toNat)
      case atStart => exact ⟨0, fun _ => 0, by omega, rfl, HM5.out, fun s hs => by omega⟩
      case round =>
        clear HM5
        obtain ⟨k, sg, hk, rfl, hI, hS⟩ := hrel
        have HI := Lib.hid hI
        have HSG := Lib.hid hS
        clear hI hS
        by_cases hkn : k < n
        · have hd : decide ((k : Int) < (n : Int)) = true := decide_eq_true (by omega)
          have hfar := HI.out.base.far
          rw [HN.out] at hfar
          obtain ⟨b, o, hA, hcl⟩ := hfar.at hkn
          subst hA
          clear hfar
          have hv15 := lenAt_low HLOW.out k
          have HKL : RowKit.Hid (k < l.length) := Lib.hid (by rw [HN.out]; exact hkn)
          by_cases hv : lenAt l k = 0
          · rw [hv] at hcl
            have HC1 := Lib.hid (codeTo_none hv)
            have HG1 := Lib.hid (givTo_none HKL.out hv)
            have HS1 := Lib.hid (HSG.out.none hv)
            clear hv hv15
            go_wp2_with fail
            go_roundw
            case rel => exact ⟨k + 1, sg, by omega, by simp, by rw [HC1.out, HG1.out]; exact HI.out, HS1.out⟩
            case measure => simp [intOf]; omega
          · have HC1 := Lib.hid (codeTo_more l k)
            have HG1 := Lib.hid (givTo_more HKL.out hv)
            have HS1 := Lib.hid (HSG.out.more hv)
            have hgv := HI.out.given.ia (show lenAt l k < 16 by omega)
            rw [givTo_at hv] at hgv
            have HGV := Lib.hid (givTo_at hv)
            have hff := HI.out.base.code.cell (19 + lenAt l k)
            rw [hcells_f _ _ _ _ _ (by omega)] at hff
            have hF := fst_le HOK.out (show lenAt l k ≤ 16 by omega)
            have hF2 : fst (cnt l) (lenAt l k) ≤ 65536 := Nat.le_trans hF (Nat.pow_le_pow_right (by decide) (show lenAt l k ≤ 16 by omega))
            have hR := rank_lt HKL.out
            have hR2 := HC.out (lenAt l k)
            have hR3 : rank l k ≤ 320 := by omega
            have HCE := Lib.hid (code_eq hv)
            have hss := HI.out.base.starts.ia (show lenAt l k < 16 by omega)
            have hv16 : lenAt l k < 16 := by omega
            have hsb := HSB.out (lenAt l k)
            have hsb2 : st (cnt l) (lenAt l k) ≤ 16000 := by omega
            have hP := pos_lt HLOW.out hv
            rw [HM.out] at hP
            have hPe : posAt l k = st (cnt l) (lenAt l k) + rank l k := rfl
            obtain ⟨P, HP⟩ : ∃ P, RowKit.Hid (posAt l k = P) := ⟨_, Lib.hid rfl⟩
            rw [HP.out] at hP hPe HS1
            have hcc := HI.out.base.codes.ia (show k < l.length from HKL.out)
            have hct := HI.out.base.codes.thawed k
            have hc1 := HI.out.base.code.cell 1
            rw [hcells_1] at hc1
            generalize fst (cnt l) (lenAt l k) = F at hff hF hF2 HCE
            obtain ⟨S, HS0⟩ : ∃ S, RowKit.Hid (st (cnt l) (lenAt l k) = S) := ⟨_, Lib.hid rfl⟩
            rw [HS0.out] at hss hsb2 hPe hsb
            generalize rank l k = R at hgv hR hR3 HCE hPe HG1 HGV
            have hPi : (S : Int) + (R : Int) = (P : Int) := by omega
            have hvz : ((lenAt l k : Int) == 0) = false := by rw [beq_eq_false_iff_ne]; omega
            generalize lenAt l k = v at *
            clear hF hR hR2 hsb hPe hv
            generalize codeTo l k k = y1 at hcc
            go_wp2_with fail
            go_region
            have HI4 := Lib.hid (HI.out.setCodes HG.out k (F + R) ((F : Int) + (R : Int)) (by omega)).drew
            rw [← HCE.out, ← HC1.out] at HI4
            generalize (World.setCell _ _ _).drew = w6 at HI4 ⊢
            clear HI hgv hff hcc hct hc1 hss
            have hc2 := HI4.out.base.code.cell 2
            rw [hcells_2] at hc2
            have hss := HI4.out.base.starts.ia hv16
            rw [HS0.out] at hss
            have hgv := HI4.out.given.ia hv16
            rw [HGV.out] at hgv
            have hsc := HI4.out.signs.ia hP
            have hst := HI4.out.signs.thawed P
            generalize sg P = y2 at hsc
            go_wp2_with fail
            go_region
            have HI5 := Lib.hid (HI4.out.setSigns HG.out P k (k : Int) rfl).drew
            generalize (World.setCell _ _ _).drew = w7 at HI5 ⊢
            clear HI4 hc2 hss hgv hsc hst
            have hgv := HI5.out.given.ia hv16
            rw [HGV.out] at hgv
            have hgt := HI5.out.given.thawed v
            go_wp2_with fail
            go_roundw
            case rel => exact ⟨k + 1, _, by omega, by simp, by rw [HG1.out]; exact HI5.out.setGiven HG.out v (R + 1) _ (by omega), HS1.out⟩
            case measure => simp [intOf]; omega
        · obtain rfl : k = n := by omega
          have hd : decide ((k : Int) < (k : Int)) = false := decide_eq_false (by omega)
          go_wp2_with fail
          refine bodyPost_end (results_none rfl _ _ _) rfl ?_
          have hkl := HN.out
          have hall : codeTo l k = codeTo l l.length := by rw [hkl]
          have hcd : ia (codeTo l l.length) l.length = ia (codeAt l) l.length := ia_congr fun i hi => by unfold codeTo; rw [if_pos hi]
          have hbase := HI.out.base
          have hcodes := hbase.codes
          rw [hall, hcd] at hcodes
          have hcode := hbase.code
          have hsigns := HI.out.signs
          have hok := HSG.out
          rw [← HM.out] at hcode hsigns
          rw [← hkl] at hcode hok
          have hlt : g < wr.heap.size := by have := hbase.size; have := hbase.lt; omega
          have hlen : l.length ≤ 320 := by rw [hkl]; exact hn3
          refine ⟨rfl, ⟨⟨hlt, HLOW.out, HOK.out, hlen, A, cl, _, _, _, _, sg, hcode, hbase.far.rd (by have := hbase.size; omega), hcodes.rdI (by have := hbase.size; omega), hsigns.rdI hsigns.lt, hok⟩, fun lo h1 h2 w' ha => ?_⟩, hbase.keep⟩
          have h3 := hbase.lt
          exact ⟨hlt, HLOW.out, HOK.out, hlen, A, cl, _, _, _, _, sg, hcode.agree ha h1 hlt, (hbase.far.rd (by have := hbase.size; omega)).agree ha h2, (hcodes.agree ha (by omega) hcodes.lt).rdI hcodes.lt, (hsigns.agree ha (by omega) hsigns.lt).rdI hsigns.lt, hok⟩
end Go.Proofs.Ytnadnokjhinmcaa
