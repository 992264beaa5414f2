
/- Words for rows of bytes and of numbers: a slice that reads as a list, a row that the call made itself, append and make on it, and a text made of bytes. -/
import Derived.Test.YtfebfkbdbncihaaGreatDoorRows
import Derived.WalkKit
import Derived.WalkSpells
import Derived.WalkLawsBesides
import Derived.Lib.Hide
import Derived.Lib.Bytealg
import Derived.Laws.BytesString
import Derived.Deep.AppendLies
import Derived.Maps.AppendAt
import Derived.Laws.AppendOwnNone
import Derived.StillTailTactics
import Derived.Deep.RegionLaw
import Derived.RegionTactic
import Derived.Deep.WholeRow
import Derived.Laws.CopyRow
import Derived.Laws.OwnMore
namespace Go.Proofs.YtfebfkbdbncihaaGreatDoor
set_option maxRecDepth 20000
set_option maxRecDepth 20000
open Go.RowKit

abbrev U8 (b : UInt8) : Value := .int .u8 (b.toNat : Int)
def us (l : List UInt8) : List Value := l.map U8
theorem us_length (l : List UInt8) : (us l).length = l.length := by simp [us]
theorem us_append (a b : List UInt8) : us (a ++ b) = us a ++ us b := by simp [us]
theorem info5 : (Tryz.prog.info? 5).map (fun i => (i.zero, i.size, i.bytes)) = some (some (.int .u8 0), 1, 1) := by kernel_rfl
/-- A row of bytes that the call made itself, among the blocks from B on. -/
def Own (w : World) (B : Nat) (v : Value) (l : List UInt8) : Prop := w.ownsRow B 5 1 v l.length (us l)
/-- A slice that reads as a list; where it is not empty it lies below block B. -/
def Rd (w : World) (B : Nat) (A : Option Addr) (n : Nat) (xs : List Value) : Prop :=
  xs.length = n ∧ (0 < n → ∃ g o, A = some ⟨g, o, none⟩ ∧ g < B ∧ ∀ j u, xs[j]? = some u → w.cell? ⟨g, o + j, none⟩ = some u)

theorem Rd.below {w w' : World} {B : Nat} {A : Option Addr} {n : Nat} {xs : List Value} (h : Rd w B A n xs) (hb : Below B w w') : Rd w' B A n xs := by
  refine ⟨h.1, fun hn => ?_⟩
  obtain ⟨g, o, rfl, hg, hc⟩ := h.2 hn
  exact ⟨g, o, rfl, hg, fun j u hu => (hb.cell (p := ⟨g, o + j, none⟩) hg).trans (hc j u hu)⟩

theorem Rd.more {w : World} {B B' : Nat} {A : Option Addr} {n : Nat} {xs : List Value} (h : Rd w B A n xs) (hB : B ≤ B') : Rd w B' A n xs := by
  refine ⟨h.1, fun hn => ?_⟩
  obtain ⟨g, o, rfl, hg, hc⟩ := h.2 hn
  exact ⟨g, o, rfl, by omega, hc⟩

theorem Rd.at8 {w : World} {B : Nat} {A : Option Addr} {n : Nat} {l : List UInt8} (h : Rd w B A n (us l)) {k : Nat} (hk : k < n) :
    ∃ g o x, A = some ⟨g, o, none⟩ ∧ g < B ∧ l[k]? = some x ∧ w.cell? ⟨g, o + k, none⟩ = some (.int .u8 (x.toNat : Int)) := by
  obtain ⟨g, o, rfl, hg, hc⟩ := h.2 (by omega)
  have hl : k < l.length := by have := h.1; rw [us_length] at this; omega
  refine ⟨g, o, l[k], rfl, hg, List.getElem?_eq_getElem hl, hc k _ ?_⟩
  simp [us, List.getElem?_eq_getElem hl]

theorem Own.rd {w : World} {B : Nat} {A : Option Addr} {n c : Nat} {l : List UInt8} (h : Own w B (.slice A n c) l) : n = l.length ∧ Rd w w.heap.size A n (us l) := by
  rcases h.2 with ⟨hv, hn⟩ | ⟨g, cap, cur, hv, hb, hg, rest⟩
  · injection hv with h1 h2 h3
    subst h2
    refine ⟨hn.symm, ?_, fun h0 => by omega⟩
    rw [us_length]; exact hn
  · injection hv with h1 h2 h3
    subst h1 h2
    refine ⟨rfl, by rw [us_length], fun _ => ⟨g, 0, rfl, (Array.getElem?_eq_some_iff.1 hg).1, fun j u hu => ?_⟩⟩
    have := World.ownsRow.cells h (g := g) rfl j u hu
    rw [Go.WideShapes.add_plain] at this
    exact this

theorem Own.slice {w : World} {B : Nat} {v : Value} {l : List UInt8} (h : Own w B v l) : ∃ A c, v = .slice A l.length c := by
  rcases h.2 with ⟨hv, hn⟩ | ⟨g, cap, cur, hv, _⟩
  · exact ⟨none, 0, by rw [hv, hn]⟩
  · exact ⟨_, _, hv⟩

theorem Own.at8 {w : World} {B : Nat} {v : Value} {l : List UInt8} (h : Own w B v l) {k : Nat} (hk : k < l.length) :
    ∃ g c x, v = .slice (some ⟨g, 0, none⟩) l.length c ∧ l[k]? = some x ∧ w.cell? ⟨g, k, none⟩ = some (.int .u8 (x.toNat : Int)) := by
  rcases h.2 with ⟨hv, hn⟩ | ⟨g, cap, cur, hv, hb, hg, rest⟩
  · omega
  · subst hv
    refine ⟨g, cap, l[k], rfl, List.getElem?_eq_getElem hk, ?_⟩
    have := World.ownsRow.cells h (g := g) rfl k (.int .u8 (l[k].toNat : Int)) (by simp [us, List.getElem?_eq_getElem hk])
    rw [Go.WideShapes.add_plain] at this
    simpa using this

theorem one8 (l : List UInt8) : ∀ u ∈ us l, u.oneCell' = true := by
  intro u hu
  obtain ⟨b, _, rfl⟩ := List.mem_map.1 hu
  rfl
theorem cells_new (w : World) (cs : Array Value) (t : TypeId) : ∀ j u, cs.toList[j]? = some u → (w.alloc (.cells cs t)).cell? ((⟨w.heap.size, 0, none⟩ : Addr).add j) = some u :=
  World.news_of_block (fr := (0, 0)) (by exact heap_alloc_new w _)

/-- Behind an append: the old block, or a new one. -/
def Fresh (w : World) (v v' : Value) : Prop := v'.ownBlock = v.ownBlock ∨ ∃ k, v'.ownBlock = some k ∧ w.heap.size ≤ k
theorem Fresh.same (w : World) (v : Value) : Fresh w v v := .inl rfl
theorem Fresh.of {w w0 : World} {v v' : Value} (h : v'.ownBlock = v.ownBlock ∨ v'.ownBlock = some w.heap.size) (hs : w0.heap.size ≤ w.heap.size) : Fresh w0 v v' := by
  rcases h with h | h
  · exact .inl h
  · exact .inr ⟨_, h, hs⟩
/-- append(out, b..) of bytes that were just laid in a block of their own. -/
theorem push8 {ops : Array Oper} {rest : List Oper} {o : Oper} {a : Act} {Q : Exit → Act → World → Prop} (w0 : World) (hgd : o.guard = none) (s x : Operand)
    (ho : o.op = .call { callee := .builtin .append, args := #[s, x], argTypes := #[99, 99] })
    (B : Nat) (v : Value) (l bs : List UInt8) (cs : Array Value) (m : Nat) (hs : a.eval s = v) (hx : a.eval x = .slice (some ⟨w0.heap.size, 0, none⟩) m m)
    (hown : Own w0 B v l) (hcs : cs.toList = us bs) (hm : bs.length = m) (hB : B ≤ w0.heap.size) (hl : l.length + m ≤ 1000000)
    (h : ∀ v' w', Own w' B v' (l ++ bs) → w0.grownBy w' v.ownBlock → Fresh w0 v v' → wpList Tryz.prog ops Q rest (a.put o.dst v') w') :
    wpList Tryz.prog ops Q (o :: rest) a (w0.alloc (.cells cs 5)) := by
  obtain ⟨i0, hi, hz0, hz1, hz2⟩ := info_parts info5
  refine wpList_append_own_at _ hgd s x 99 ho B 5 i0 (.int .u8 0) 1 1 Tryz.underlying99 hi hz0 hz1 hz2 rfl (by decide) v l.length (us l) hs (hown.alloc _)
    ⟨w0.heap.size, 0, none⟩ m m (us bs) hx (by rw [us_length, hm]; omega) ?_ (one8 bs) (by unfold maxLen; omega) (by omega) (by simp; omega) ?_
  · rw [← hcs]; exact cells_new w0 cs 5
  · intro v' w' h1 h2 _ h4
    refine h v' w' ?_ ((World.grownBy_alloc w0 _ _).trans h2) (Fresh.of h4 (by simp))
    unfold Own
    rw [List.length_append, hm, us_append]
    exact h1

/-- The same in a region that draws its order. -/
theorem step8 {ops : Array Oper} {o : Oper} {a : Act} {K : Act → World → Prop} {Q : Exit → Act → World → Prop} {E : Prop} (w0 : World) (hgd : o.guard = none) (s x : Operand)
    (ho : o.op = .call { callee := .builtin .append, args := #[s, x], argTypes := #[99, 99] })
    (B : Nat) (v : Value) (l bs : List UInt8) (cs : Array Value) (m : Nat) (hs : a.eval s = v) (hx : a.eval x = .slice (some ⟨w0.heap.size, 0, none⟩) m m)
    (hown : Own w0 B v l) (hcs : cs.toList = us bs) (hm : bs.length = m) (hB : B ≤ w0.heap.size) (hl : l.length + m ≤ 1000000)
    (h : ∀ v' w', Own w' B v' (l ++ bs) → w0.grownBy w' v.ownBlock → K (a.put o.dst v') w') :
    if Region.wanted o (yielded ops a.tmps) = true then Oper.wp Tryz.prog o a (w0.alloc (.cells cs 5)).drew K Q else E := by
  have hw : Region.wanted o (yielded ops a.tmps) = true := by simp [Region.wanted, hgd]
  rw [if_pos hw]
  obtain ⟨i0, hi, hz0, hz1, hz2⟩ := info_parts info5
  obtain ⟨v', w', hr, h2, h3, _, _⟩ := run_append_own_at (P := Tryz.prog) (w0.alloc (.cells cs 5)).drew B 99 o.type 5 i0 (.int .u8 0) 1 1 Tryz.underlying99 hi hz0 hz1 hz2 rfl (by decide) v l.length (us l) (hown.alloc _)
    ⟨w0.heap.size, 0, none⟩ m m (us bs) (by rw [us_length, hm]; omega) (by rw [← hcs]; exact cells_new w0 cs 5) (one8 bs) (by unfold maxLen; omega) (by omega) (by show B ≤ (w0.alloc _).heap.size; simp; omega)
  unfold Oper.wp execOp
  simp only [ho, resolve, invoke, builtin, Sem.run_bind, Sem.run_pure, Result.andThen_ok, List.map_toArray, List.map_cons, List.map_nil, hs, hx, hr]
  refine h v' w' ?_ ⟨h3.os, h3.tape, h3.output, Nat.le_trans (by simp) h3.size, fun k hk hne => (h3.block k (by show k < (w0.alloc _).heap.size; simp; omega) hne).trans (Below.heap_alloc w0 _ k hk)⟩
  unfold Own
  rw [List.length_append, hm, us_append]
  exact h2

set_option maxRecDepth 20000 in
/-- append(out, xs...) of bytes that lie anywhere, or nowhere. -/
theorem cat8 {ops : Array Oper} {rest : List Oper} {o : Oper} {a : Act} {Q : Exit → Act → World → Prop} (w0 : World) (hgd : o.guard = none) (s x : Operand)
    (ho : o.op = .call { callee := .builtin .append, args := #[s, x], argTypes := #[99, 99] })
    (B C : Nat) (v : Value) (l bs : List UInt8) (A : Option Addr) (m c : Nat) (hs : a.eval s = v) (hx : a.eval x = .slice A m c)
    (hown : Own w0 B v l) (hr : Rd w0 C A m (us bs)) (hA : A = none → c = 0) (hB : B ≤ w0.heap.size) (hl : l.length + m ≤ 1000000)
    (h : ∀ v' w', Own w' B v' (l ++ bs) → w0.grownBy w' v.ownBlock → Fresh w0 v v' → wpList Tryz.prog ops Q rest (a.put o.dst v') w') :
    wpList Tryz.prog ops Q (o :: rest) a w0 := by
  obtain ⟨i0, hi, hz0, hz1, hz2⟩ := info_parts info5
  have hm : bs.length = m := by have := hr.1; rwa [us_length] at this
  rcases A with _ | ad
  · have h0 : m = 0 := by
      rcases Nat.eq_zero_or_pos m with h0 | h0
      · exact h0
      · obtain ⟨g, o, he, _⟩ := hr.2 h0; cases he
    subst h0
    have : bs = [] := List.eq_nil_of_length_eq_zero hm
    subst this
    refine wpList_append_own_none hgd s x 99 ho B 5 i0 1 Tryz.underlying99 hi v l.length (us l) hs hown (by rw [hx, hA rfl]) ?_
    exact h v w0 (by simpa using hown) (World.grownBy.refl _ _) (Fresh.same _ _)
  · refine wpList_append_own_at _ hgd s x 99 ho B 5 i0 (.int .u8 0) 1 1 Tryz.underlying99 hi hz0 hz1 hz2 rfl (by decide) v l.length (us l) hs hown
      ad m c (us bs) hx (by rw [us_length, hm]; omega) ?_ (one8 bs) (by unfold maxLen; omega) (by omega) hB ?_
    · intro j u hu
      have h0 : 0 < m := by
        rcases Nat.eq_zero_or_pos m with h0 | h0
        · subst h0
          have : bs = [] := List.eq_nil_of_length_eq_zero hm
          subst this
          simp [us] at hu
        · exact h0
      obtain ⟨g, o, he, _, hc⟩ := hr.2 h0
      injection he with he
      subst he
      rw [Go.WideShapes.add_plain]
      exact hc j u hu
    · intro v' w' h1 h2 _ h4
      refine h v' w' ?_ h2 (Fresh.of h4 (Nat.le_refl _))
      unfold Own
      rw [List.length_append, hm, us_append]
      exact h1

/-- make([]byte, 0, n) -/
theorem make8 {ops : Array Oper} {rest : List Oper} {o : Oper} {a : Act} {Q : Exit → Act → World → Prop} (w0 : World) (hgd : o.guard = none) (l c : Operand)
    (ho : o.op = Op.makeSlice 99 l c) (C : Int) (hl : a.eval l = .int .i64 0) (hc : a.eval c = .int .i64 C) (h0 : 0 ≤ C) (h1 : C ≤ 1000000)
    (h : ∀ v w', Own w' w0.heap.size v [] → w0.grownBy w' none → wpList Tryz.prog ops Q rest (a.put o.dst v) w') :
    wpList Tryz.prog ops Q (o :: rest) a w0 := by
  obtain ⟨i0, hi, hz0, hz1, hz2⟩ := info_parts info5
  exact wpList_make_own w0 hgd l c 99 ho w0.heap.size 5 i0 (.int .u8 0) 1 Tryz.underlying99 hi hz0 hz1 .i64 .i64 C C.toNat hl hc (by omega) (by rw [hz2]; omega) (by unfold maxLen; omega) (Nat.le_refl _)
    (fun w' h1 h2 => h _ w' h1 h2)

theorem Own.lit (w : World) (cs : Array Value) (l : List UInt8) (n : Nat) (h : cs.toList = us l) (hn : l.length = n) (hm : n ≤ 1000000) :
    Own (w.alloc (.cells cs 5)) w.heap.size (.slice (some ⟨w.heap.size, 0, none⟩) n n) l := by
  have hs : cs.size = n := by rw [← Array.length_toList, h, us_length, hn]
  refine ⟨by rw [us_length]; omega, .inr ⟨w.heap.size, n, cs, by rw [hn], Nat.le_refl _, heap_alloc_new w _, by omega, by unfold maxLen; omega, by omega, ?_⟩⟩
  rw [h, List.take_of_length_le (by rw [us_length]; omega)]

theorem Rd.next {w w' : World} {A : Option Addr} {n : Nat} {xs : List Value} (h : Rd w w.heap.size A n xs) (hb : Below w.heap.size w w') : Rd w' w'.heap.size A n xs := (h.below hb).more hb.size

theorem Own.nil (w : World) (B : Nat) : Own w B (.slice none 0 0) [] := World.ownsRow_nil w B 5 1

theorem Own.grown {w w' : World} {B : Nat} {a : World} {v : Value} {l : List UInt8} (h : Own w B v l) (hg : w.grownBy w' v.ownBlock) (hb : Below B a w) (hB : B ≤ w.heap.size) : Below B a w' :=
  hb.grown hg hB fun k hk => (World.ownsRow.lt h k hk).1
theorem below_make {w w' : World} (h : w.grownBy w' none) : Below w.heap.size w w' := (Below.refl _ w).grown h (Nat.le_refl _) (fun k hk => by cases hk)

/-- string(bytes) -/
theorem str8 (w : World) (B : Nat) (A : Option Addr) (n c : Nat) (l : List UInt8) (h : Rd w B A n (us l)) :
    (convert 99 9 (.slice A n c)).run Tryz.prog w = .ok (.string ⟨l.toArray⟩) w := by
  rw [run_convert_bytes_string w 99 9 5 A n c Tryz.underlying99 Tryz.underlying5 Tryz.underlying9]
  have hn : l.length = n := by have := h.1; rwa [us_length] at this
  rcases A with _ | a
  · have h0 : n = 0 := by
      rcases Nat.eq_zero_or_pos n with h0 | h0
      · exact h0
      · obtain ⟨g, o, he, _⟩ := h.2 h0; cases he
    subst h0
    have : l = [] := List.eq_nil_of_length_eq_zero hn
    subst this
    simp [Conv.bytesToString, Sem.run_pure]
    rfl
  · rw [run_bytesToString w a n c (l.map fun b => (b.toNat : Int)) ?_]
    · congr 2
      have : ∀ (l : List UInt8) (s : ByteArray), ((l.map fun b => (b.toNat : Int)).foldl (fun r n => r.push (UInt8.ofNat n.toNat)) s) = ⟨(s.data.toList ++ l).toArray⟩ := by
        intro l
        induction l with
        | nil => intro s; simp
        | cons b l ih =>
          intro s
          simp only [List.map_cons, List.foldl_cons, ih]
          simp [ByteArray.push]
      rw [this]
      simp
    · have hl := run_loadCells_list (P := Tryz.prog) (w := w) a (us l) (fun j u hu => ?_)
      · rw [us_length, hn] at hl
        simp only [List.map_map]
        exact hl
      · have h0 : 0 < n := by
          rcases Nat.eq_zero_or_pos n with h0 | h0
          · subst h0
            have : l = [] := List.eq_nil_of_length_eq_zero hn
            subst this
            simp [us] at hu
          · exact h0
        obtain ⟨g, o, he, _, hc⟩ := h.2 h0
        injection he with he
        subst he
        rw [Go.WideShapes.add_plain]
        exact hc j u hu

/-- Block g holds these cells. -/
def Row (w : World) (g : Nat) (cs : Array Value) (t : TypeId) : Prop := w.heap[g]? = some (.cells cs t (0, 0))

theorem Row.lt {w : World} {g : Nat} {cs : Array Value} {t : TypeId} (h : Row w g cs t) : g < w.heap.size := (Array.getElem?_eq_some_iff.1 h).1
theorem Row.cell {w : World} {g : Nat} {cs : Array Value} {t : TypeId} (h : Row w g cs t) (j : Nat) : w.cell? ⟨g, j, none⟩ = cs[j]? := cell_of_row w g j cs t _ h
theorem Row.thawed {w : World} {g : Nat} {cs : Array Value} {t : TypeId} (h : Row w g cs t) (j : Nat) : w.frozen? ⟨g, j, none⟩ = false := frozen_of_row w g j cs t h
theorem Row.grown {w w' : World} {g : Nat} {cs : Array Value} {t : TypeId} {r : Option Nat} (h : Row w g cs t) (hg : w.grownBy w' r) (hr : some g ≠ r) : Row w' g cs t := by
  unfold Row; rw [hg.block g h.lt hr]; exact h
theorem Row.below {w w' : World} {B g : Nat} {cs : Array Value} {t : TypeId} (h : Row w g cs t) (hb : Below B w w') (hg : g < B) : Row w' g cs t := by
  unfold Row; rw [hb.block g hg]; exact h
theorem Row.drew {w : World} {g : Nat} {cs : Array Value} {t : TypeId} (h : Row w g cs t) : Row w.drew g cs t := h
theorem Row.set {w : World} {g : Nat} {cs : Array Value} {t : TypeId} (h : Row w g cs t) (i : Nat) (v : Value) : Row (w.setCell ⟨g, i, none⟩ v) g (cs.setIfInBounds i v) t := heap_setCell_same w g i cs t v h
theorem Row.other {w : World} {g : Nat} {cs : Array Value} {t : TypeId} (h : Row w g cs t) {k : Nat} (hk : g ≠ k) (i : Nat) (v : Value) : Row (w.setCell ⟨k, i, none⟩ v) g cs t := by
  unfold Row; rw [heap_setCell_other w ⟨k, i, none⟩ g v hk]; exact h
theorem Row.new (w : World) (cs : Array Value) (t : TypeId) : Row (w.alloc (.cells cs t)) w.heap.size cs t := heap_alloc_new w _

theorem grown_setCell (w : World) (g i : Nat) (v : Value) : w.grownBy (w.setCell ⟨g, i, none⟩ v) (some g) :=
  ⟨rfl, rfl, rfl, by simp [World.setCell], fun k _ hk => heap_setCell_other w ⟨g, i, none⟩ k v (fun e => hk (by rw [e]))⟩
theorem grown_drew {w w' : World} {r : Option Nat} (h : w.grownBy w' r) : w.grownBy w'.drew r := ⟨h.os, h.tape, h.output, h.size, h.block⟩
theorem grown_of_below {w w' : World} (h : Below w.heap.size w w') : w.grownBy w' none := ⟨h.os, h.tape, h.output, h.size, fun k hk _ => h.block k hk⟩

/-- A slice that reads as a list and lies in none of the blocks S. -/
def RdS (w : World) (S : List Nat) (A : Option Addr) (n : Nat) (xs : List Value) : Prop :=
  xs.length = n ∧ (0 < n → ∃ b o, A = some ⟨b, o, none⟩ ∧ b ∉ S ∧ b < w.heap.size ∧ ∀ j u, xs[j]? = some u → w.cell? ⟨b, o + j, none⟩ = some u)
theorem RdS.grown {w w' : World} {S : List Nat} {A : Option Addr} {n : Nat} {xs : List Value} (h : RdS w S A n xs) {r : Option Nat} (hg : w.grownBy w' r) (hr : ∀ g, r = some g → g ∈ S) : RdS w' S A n xs := by
  refine ⟨h.1, fun hn => ?_⟩
  obtain ⟨b, o, rfl, hb, hlt, hc⟩ := h.2 hn
  exact ⟨b, o, rfl, hb, Nat.lt_of_lt_of_le hlt hg.size, fun j u hu => (World.cell?_of_block (w := w) (a := ⟨b, o + j, none⟩) (hg.block b hlt (fun e => hb (hr b e.symm)))).trans (hc j u hu)⟩
theorem RdS.less {w : World} {S S' : List Nat} {A : Option Addr} {n : Nat} {xs : List Value} (h : RdS w S A n xs) (hs : ∀ g ∈ S', g ∈ S) : RdS w S' A n xs := by
  refine ⟨h.1, fun hn => ?_⟩
  obtain ⟨b, o, rfl, hb, hlt, hc⟩ := h.2 hn
  exact ⟨b, o, rfl, fun e => hb (hs b e), hlt, hc⟩
theorem RdS.rd {w : World} {S : List Nat} {A : Option Addr} {n : Nat} {xs : List Value} (h : RdS w S A n xs) : Rd w w.heap.size A n xs := by
  refine ⟨h.1, fun hn => ?_⟩
  obtain ⟨b, o, rfl, hb, hlt, hc⟩ := h.2 hn
  exact ⟨b, o, rfl, hlt, hc⟩
theorem Rd.rdS {w : World} {B : Nat} {A : Option Addr} {n : Nat} {xs : List Value} (h : Rd w B A n xs) (hB : B ≤ w.heap.size) {S : List Nat} (hS : ∀ g ∈ S, B ≤ g) : RdS w S A n xs := by
  refine ⟨h.1, fun hn => ?_⟩
  obtain ⟨b, o, rfl, hb, hc⟩ := h.2 hn
  exact ⟨b, o, rfl, fun e => by have := hS b e; omega, by omega, hc⟩
theorem RdS.at8 {w : World} {S : List Nat} {A : Option Addr} {n : Nat} {l : List UInt8} (h : RdS w S A n (us l)) {k : Nat} (hk : k < n) :
    ∃ b o x, A = some ⟨b, o, none⟩ ∧ l[k]? = some x ∧ w.cell? ⟨b, o + k, none⟩ = some (.int .u8 (x.toNat : Int)) := by
  obtain ⟨g, o, x, h1, _, h2, h3⟩ := h.rd.at8 hk
  exact ⟨g, o, x, h1, h2, h3⟩
theorem Rd.part {w : World} {B : Nat} {n : Nat} {xs : List Value} {g o : Nat} (h : Rd w B (some ⟨g, o, none⟩) n xs) (i m : Nat) (hi : i + m ≤ n) : Rd w B (some ⟨g, o + i, none⟩) m ((xs.drop i).take m) := by
  refine ⟨by rw [List.length_take, List.length_drop, h.1]; omega, fun hm => ?_⟩
  obtain ⟨g', o', he, hg, hc⟩ := h.2 (by omega)
  injection he with he
  injection he with e1 e2 e3
  subst e1 e2
  refine ⟨g, o + i, rfl, hg, fun j u hu => ?_⟩
  rw [Nat.add_assoc]
  refine hc (i + j) u ?_
  rw [List.getElem?_take] at hu
  split at hu
  · rw [List.getElem?_drop] at hu; exact hu
  · cases hu
theorem take_more {α : Type} {l : List α} {k : Nat} {x : α} (h : l[k]? = some x) : l.take (k + 1) = l.take k ++ [x] := by
  rw [List.take_add_one, h]; rfl

end Go.Proofs.YtfebfkbdbncihaaGreatDoor
