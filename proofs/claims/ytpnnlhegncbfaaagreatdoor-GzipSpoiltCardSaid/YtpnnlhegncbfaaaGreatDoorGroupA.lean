
/- Words for rows of bytes and of numbers: a slice that reads as a list, a row that the call made itself, append and make on it, and a text made of bytes. -/

/- Bytes and bits as numbers: the low one first. No program is named here. -/

/- Contracts of what is small: Num, Is, Bytes of crossdocknum; the calls of nil; refusal; turnedRound; slices.Clone. -/
import Derived.Test.YtpnnlhegncbfaaaGreatDoorRows
import Derived.WalkKit
import Derived.WalkSpells
import Derived.WalkLawsBesides
import Derived.Lib.Hide
import Derived.Lib.Bytealg
import Derived.Laws.BytesString
import Derived.Deep.AppendLies
import Derived.Maps.AppendAt
import Derived.Laws.AppendOwnNone
import Derived.StillTailTactics
import Derived.Deep.RegionLaw
import Derived.RegionTactic
import Derived.Deep.WholeRow
import Derived.Laws.CopyRow
import Derived.Laws.OwnMore
namespace Go.Proofs.YtpnnlhegncbfaaaGreatDoor
set_option maxRecDepth 20000
open Go.RowKit

abbrev U8 (b : UInt8) : Value := .int .u8 (b.toNat : Int)
def us (l : List UInt8) : List Value := l.map U8
theorem us_length (l : List UInt8) : (us l).length = l.length := by simp [us]
theorem us_append (a b : List UInt8) : us (a ++ b) = us a ++ us b := by simp [us]
theorem info5 : (Tryz.prog.info? 5).map (fun i => (i.zero, i.size, i.bytes)) = some (some (.int .u8 0), 1, 1) := by kernel_rfl
/-- A row of bytes that the call made itself, among the blocks from B on. -/
def Own (w : World) (B : Nat) (v : Value) (l : List UInt8) : Prop := w.ownsRow B 5 1 v l.length (us l)
/-- A slice that reads as a list; where it is not empty it lies below block B. -/
def Rd (w : World) (B : Nat) (A : Option Addr) (n : Nat) (xs : List Value) : Prop :=
  xs.length = n ∧ (0 < n → ∃ g o, A = some ⟨g, o, none⟩ ∧ g < B ∧ ∀ j u, xs[j]? = some u → w.cell? ⟨g, o + j, none⟩ = some u)

theorem Rd.below {w w' : World} {B : Nat} {A : Option Addr} {n : Nat} {xs : List Value} (h : Rd w B A n xs) (hb : Below B w w') : Rd w' B A n xs := by
  refine ⟨h.1, fun hn => ?_⟩
  obtain ⟨g, o, rfl, hg, hc⟩ := h.2 hn
  exact ⟨g, o, rfl, hg, fun j u hu => (hb.cell (p := ⟨g, o + j, none⟩) hg).trans (hc j u hu)⟩

theorem Rd.more {w : World} {B B' : Nat} {A : Option Addr} {n : Nat} {xs : List Value} (h : Rd w B A n xs) (hB : B ≤ B') : Rd w B' A n xs := by
  refine ⟨h.1, fun hn => ?_⟩
  obtain ⟨g, o, rfl, hg, hc⟩ := h.2 hn
  exact ⟨g, o, rfl, by omega, hc⟩

theorem Rd.at8 {w : World} {B : Nat} {A : Option Addr} {n : Nat} {l : List UInt8} (h : Rd w B A n (us l)) {k : Nat} (hk : k < n) :
    ∃ g o x, A = some ⟨g, o, none⟩ ∧ g < B ∧ l[k]? = some x ∧ w.cell? ⟨g, o + k, none⟩ = some (.int .u8 (x.toNat : Int)) := by
  obtain ⟨g, o, rfl, hg, hc⟩ := h.2 (by omega)
  have hl : k < l.length := by have := h.1; rw [us_length] at this; omega
  refine ⟨g, o, l[k], rfl, hg, List.getElem?_eq_getElem hl, hc k _ ?_⟩
  simp [us, List.getElem?_eq_getElem hl]

theorem Own.rd {w : World} {B : Nat} {A : Option Addr} {n c : Nat} {l : List UInt8} (h : Own w B (.slice A n c) l) : n = l.length ∧ Rd w w.heap.size A n (us l) := by
  rcases h.2 with ⟨hv, hn⟩ | ⟨g, cap, cur, hv, hb, hg, rest⟩
  · injection hv with h1 h2 h3
    subst h2
    refine ⟨hn.symm, ?_, fun h0 => by omega⟩
    rw [us_length]; exact hn
  · injection hv with h1 h2 h3
    subst h1 h2
    refine ⟨rfl, by rw [us_length], fun _ => ⟨g, 0, rfl, (Array.getElem?_eq_some_iff.1 hg).1, fun j u hu => ?_⟩⟩
    have := World.ownsRow.cells h (g := g) rfl j u hu
    rw [Go.WideShapes.add_plain] at this
    exact this

theorem Own.slice {w : World} {B : Nat} {v : Value} {l : List UInt8} (h : Own w B v l) : ∃ A c, v = .slice A l.length c := by
  rcases h.2 with ⟨hv, hn⟩ | ⟨g, cap, cur, hv, _⟩
  · exact ⟨none, 0, by rw [hv, hn]⟩
  · exact ⟨_, _, hv⟩

theorem Own.at8 {w : World} {B : Nat} {v : Value} {l : List UInt8} (h : Own w B v l) {k : Nat} (hk : k < l.length) :
    ∃ g c x, v = .slice (some ⟨g, 0, none⟩) l.length c ∧ l[k]? = some x ∧ w.cell? ⟨g, k, none⟩ = some (.int .u8 (x.toNat : Int)) := by
  rcases h.2 with ⟨hv, hn⟩ | ⟨g, cap, cur, hv, hb, hg, rest⟩
  · omega
  · subst hv
    refine ⟨g, cap, l[k], rfl, List.getElem?_eq_getElem hk, ?_⟩
    have := World.ownsRow.cells h (g := g) rfl k (.int .u8 (l[k].toNat : Int)) (by simp [us, List.getElem?_eq_getElem hk])
    rw [Go.WideShapes.add_plain] at this
    simpa using this

theorem one8 (l : List UInt8) : ∀ u ∈ us l, u.oneCell' = true := by
  intro u hu
  obtain ⟨b, _, rfl⟩ := List.mem_map.1 hu
  rfl
theorem cells_new (w : World) (cs : Array Value) (t : TypeId) : ∀ j u, cs.toList[j]? = some u → (w.alloc (.cells cs t)).cell? ((⟨w.heap.size, 0, none⟩ : Addr).add j) = some u :=
  World.news_of_block (fr := (0, 0)) (by exact heap_alloc_new w _)

/-- Behind an append: the old block, or a new one. -/
def Fresh (w : World) (v v' : Value) : Prop := v'.ownBlock = v.ownBlock ∨ ∃ k, v'.ownBlock = some k ∧ w.heap.size ≤ k
theorem Fresh.same (w : World) (v : Value) : Fresh w v v := .inl rfl
theorem Fresh.of {w w0 : World} {v v' : Value} (h : v'.ownBlock = v.ownBlock ∨ v'.ownBlock = some w.heap.size) (hs : w0.heap.size ≤ w.heap.size) : Fresh w0 v v' := by
  rcases h with h | h
  · exact .inl h
  · exact .inr ⟨_, h, hs⟩
/-- append(out, b..) of bytes that were just laid in a block of their own. -/
theorem push8 {ops : Array Oper} {rest : List Oper} {o : Oper} {a : Act} {Q : Exit → Act → World → Prop} (w0 : World) (hgd : o.guard = none) (s x : Operand)
    (ho : o.op = .call { callee := .builtin .append, args := #[s, x], argTypes := #[22, 22] })
    (B : Nat) (v : Value) (l bs : List UInt8) (cs : Array Value) (m : Nat) (hs : a.eval s = v) (hx : a.eval x = .slice (some ⟨w0.heap.size, 0, none⟩) m m)
    (hown : Own w0 B v l) (hcs : cs.toList = us bs) (hm : bs.length = m) (hB : B ≤ w0.heap.size) (hl : l.length + m ≤ 1000000)
    (h : ∀ v' w', Own w' B v' (l ++ bs) → w0.grownBy w' v.ownBlock → Fresh w0 v v' → wpList Tryz.prog ops Q rest (a.put o.dst v') w') :
    wpList Tryz.prog ops Q (o :: rest) a (w0.alloc (.cells cs 5)) := by
  obtain ⟨i0, hi, hz0, hz1, hz2⟩ := info_parts info5
  refine wpList_append_own_at _ hgd s x 22 ho B 5 i0 (.int .u8 0) 1 1 Tryz.underlying22 hi hz0 hz1 hz2 rfl (by decide) v l.length (us l) hs (hown.alloc _)
    ⟨w0.heap.size, 0, none⟩ m m (us bs) hx (by rw [us_length, hm]; omega) ?_ (one8 bs) (by unfold maxLen; omega) (by omega) (by simp; omega) ?_
  · rw [← hcs]; exact cells_new w0 cs 5
  · intro v' w' h1 h2 _ h4
    refine h v' w' ?_ ((World.grownBy_alloc w0 _ _).trans h2) (Fresh.of h4 (by simp))
    unfold Own
    rw [List.length_append, hm, us_append]
    exact h1

/-- The same in a region that draws its order. -/
theorem step8 {ops : Array Oper} {o : Oper} {a : Act} {K : Act → World → Prop} {Q : Exit → Act → World → Prop} {E : Prop} (w0 : World) (hgd : o.guard = none) (s x : Operand)
    (ho : o.op = .call { callee := .builtin .append, args := #[s, x], argTypes := #[22, 22] })
    (B : Nat) (v : Value) (l bs : List UInt8) (cs : Array Value) (m : Nat) (hs : a.eval s = v) (hx : a.eval x = .slice (some ⟨w0.heap.size, 0, none⟩) m m)
    (hown : Own w0 B v l) (hcs : cs.toList = us bs) (hm : bs.length = m) (hB : B ≤ w0.heap.size) (hl : l.length + m ≤ 1000000)
    (h : ∀ v' w', Own w' B v' (l ++ bs) → w0.grownBy w' v.ownBlock → K (a.put o.dst v') w') :
    if Region.wanted o (yielded ops a.tmps) = true then Oper.wp Tryz.prog o a (w0.alloc (.cells cs 5)).drew K Q else E := by
  have hw : Region.wanted o (yielded ops a.tmps) = true := by simp [Region.wanted, hgd]
  rw [if_pos hw]
  obtain ⟨i0, hi, hz0, hz1, hz2⟩ := info_parts info5
  obtain ⟨v', w', hr, h2, h3, _, _⟩ := run_append_own_at (P := Tryz.prog) (w0.alloc (.cells cs 5)).drew B 22 o.type 5 i0 (.int .u8 0) 1 1 Tryz.underlying22 hi hz0 hz1 hz2 rfl (by decide) v l.length (us l) (hown.alloc _)
    ⟨w0.heap.size, 0, none⟩ m m (us bs) (by rw [us_length, hm]; omega) (by rw [← hcs]; exact cells_new w0 cs 5) (one8 bs) (by unfold maxLen; omega) (by omega) (by show B ≤ (w0.alloc _).heap.size; simp; omega)
  unfold Oper.wp execOp
  simp only [ho, resolve, invoke, builtin, Sem.run_bind, Sem.run_pure, Result.andThen_ok, List.map_toArray, List.map_cons, List.map_nil, hs, hx, hr]
  refine h v' w' ?_ ⟨h3.os, h3.tape, h3.output, Nat.le_trans (by simp) h3.size, fun k hk hne => (h3.block k (by show k < (w0.alloc _).heap.size; simp; omega) hne).trans (Below.heap_alloc w0 _ k hk)⟩
  unfold Own
  rw [List.length_append, hm, us_append]
  exact h2

set_option maxRecDepth 20000 in
/-- append(out, xs...) of bytes that lie anywhere, or nowhere. -/
theorem cat8 {ops : Array Oper} {rest : List Oper} {o : Oper} {a : Act} {Q : Exit → Act → World → Prop} (w0 : World) (hgd : o.guard = none) (s x : Operand)
    (ho : o.op = .call { callee := .builtin .append, args := #[s, x], argTypes := #[22, 22] })
    (B C : Nat) (v : Value) (l bs : List UInt8) (A : Option Addr) (m c : Nat) (hs : a.eval s = v) (hx : a.eval x = .slice A m c)
    (hown : Own w0 B v l) (hr : Rd w0 C A m (us bs)) (hA : A = none → c = 0) (hB : B ≤ w0.heap.size) (hl : l.length + m ≤ 1000000)
    (h : ∀ v' w', Own w' B v' (l ++ bs) → w0.grownBy w' v.ownBlock → Fresh w0 v v' → wpList Tryz.prog ops Q rest (a.put o.dst v') w') :
    wpList Tryz.prog ops Q (o :: rest) a w0 := by
  obtain ⟨i0, hi, hz0, hz1, hz2⟩ := info_parts info5
  have hm : bs.length = m := by have := hr.1; rwa [us_length] at this
  rcases A with _ | ad
  · have h0 : m = 0 := by
      rcases Nat.eq_zero_or_pos m with h0 | h0
      · exact h0
      · obtain ⟨g, o, he, _⟩ := hr.2 h0; cases he
    subst h0
    have : bs = [] := List.eq_nil_of_length_eq_zero hm
    subst this
    refine wpList_append_own_none hgd s x 22 ho B 5 i0 1 Tryz.underlying22 hi v l.length (us l) hs hown (by rw [hx, hA rfl]) ?_
    exact h v w0 (by simpa using hown) (World.grownBy.refl _ _) (Fresh.same _ _)
  · refine wpList_append_own_at _ hgd s x 22 ho B 5 i0 (.int .u8 0) 1 1 Tryz.underlying22 hi hz0 hz1 hz2 rfl (by decide) v l.length (us l) hs hown
      ad m c (us bs) hx (by rw [us_length, hm]; omega) ?_ (one8 bs) (by unfold maxLen; omega) (by omega) hB ?_
    · intro j u hu
      have h0 : 0 < m := by
        rcases Nat.eq_zero_or_pos m with h0 | h0
        · subst h0
          have : bs = [] := List.eq_nil_of_length_eq_zero hm
          subst this
          simp [us] at hu
        · exact h0
      obtain ⟨g, o, he, _, hc⟩ := hr.2 h0
      injection he with he
      subst he
      rw [Go.WideShapes.add_plain]
      exact hc j u hu
    · intro v' w' h1 h2 _ h4
      refine h v' w' ?_ h2 (Fresh.of h4 (Nat.le_refl _))
      unfold Own
      rw [List.length_append, hm, us_append]
      exact h1

/-- make([]byte, 0, n) -/
theorem make8 {ops : Array Oper} {rest : List Oper} {o : Oper} {a : Act} {Q : Exit → Act → World → Prop} (w0 : World) (hgd : o.guard = none) (l c : Operand)
    (ho : o.op = Op.makeSlice 22 l c) (C : Int) (hl : a.eval l = .int .i64 0) (hc : a.eval c = .int .i64 C) (h0 : 0 ≤ C) (h1 : C ≤ 1000000)
    (h : ∀ v w', Own w' w0.heap.size v [] → w0.grownBy w' none → wpList Tryz.prog ops Q rest (a.put o.dst v) w') :
    wpList Tryz.prog ops Q (o :: rest) a w0 := by
  obtain ⟨i0, hi, hz0, hz1, hz2⟩ := info_parts info5
  exact wpList_make_own w0 hgd l c 22 ho w0.heap.size 5 i0 (.int .u8 0) 1 Tryz.underlying22 hi hz0 hz1 .i64 .i64 C C.toNat hl hc (by omega) (by rw [hz2]; omega) (by unfold maxLen; omega) (Nat.le_refl _)
    (fun w' h1 h2 => h _ w' h1 h2)

theorem Own.lit (w : World) (cs : Array Value) (l : List UInt8) (n : Nat) (h : cs.toList = us l) (hn : l.length = n) (hm : n ≤ 1000000) :
    Own (w.alloc (.cells cs 5)) w.heap.size (.slice (some ⟨w.heap.size, 0, none⟩) n n) l := by
  have hs : cs.size = n := by rw [← Array.length_toList, h, us_length, hn]
  refine ⟨by rw [us_length]; omega, .inr ⟨w.heap.size, n, cs, by rw [hn], Nat.le_refl _, heap_alloc_new w _, by omega, by unfold maxLen; omega, by omega, ?_⟩⟩
  rw [h, List.take_of_length_le (by rw [us_length]; omega)]

theorem Rd.next {w w' : World} {A : Option Addr} {n : Nat} {xs : List Value} (h : Rd w w.heap.size A n xs) (hb : Below w.heap.size w w') : Rd w' w'.heap.size A n xs := (h.below hb).more hb.size

theorem Own.nil (w : World) (B : Nat) : Own w B (.slice none 0 0) [] := World.ownsRow_nil w B 5 1

theorem Own.grown {w w' : World} {B : Nat} {a : World} {v : Value} {l : List UInt8} (h : Own w B v l) (hg : w.grownBy w' v.ownBlock) (hb : Below B a w) (hB : B ≤ w.heap.size) : Below B a w' :=
  hb.grown hg hB fun k hk => (World.ownsRow.lt h k hk).1
theorem below_make {w w' : World} (h : w.grownBy w' none) : Below w.heap.size w w' := (Below.refl _ w).grown h (Nat.le_refl _) (fun k hk => by cases hk)

/-- string(bytes) -/
theorem str8 (w : World) (B : Nat) (A : Option Addr) (n c : Nat) (l : List UInt8) (h : Rd w B A n (us l)) :
    (convert 22 9 (.slice A n c)).run Tryz.prog w = .ok (.string ⟨l.toArray⟩) w := by
  rw [run_convert_bytes_string w 22 9 5 A n c Tryz.underlying22 Tryz.underlying5 Tryz.underlying9]
  have hn : l.length = n := by have := h.1; rwa [us_length] at this
  rcases A with _ | a
  · have h0 : n = 0 := by
      rcases Nat.eq_zero_or_pos n with h0 | h0
      · exact h0
      · obtain ⟨g, o, he, _⟩ := h.2 h0; cases he
    subst h0
    have : l = [] := List.eq_nil_of_length_eq_zero hn
    subst this
    simp [Conv.bytesToString, Sem.run_pure]
    rfl
  · rw [run_bytesToString w a n c (l.map fun b => (b.toNat : Int)) ?_]
    · congr 2
      have : ∀ (l : List UInt8) (s : ByteArray), ((l.map fun b => (b.toNat : Int)).foldl (fun r n => r.push (UInt8.ofNat n.toNat)) s) = ⟨(s.data.toList ++ l).toArray⟩ := by
        intro l
        induction l with
        | nil => intro s; simp
        | cons b l ih =>
          intro s
          simp only [List.map_cons, List.foldl_cons, ih]
          simp [ByteArray.push]
      rw [this]
      simp
    · have hl := run_loadCells_list (P := Tryz.prog) (w := w) a (us l) (fun j u hu => ?_)
      · rw [us_length, hn] at hl
        simp only [List.map_map]
        exact hl
      · have h0 : 0 < n := by
          rcases Nat.eq_zero_or_pos n with h0 | h0
          · subst h0
            have : l = [] := List.eq_nil_of_length_eq_zero hn
            subst this
            simp [us] at hu
          · exact h0
        obtain ⟨g, o, he, _, hc⟩ := h.2 h0
        injection he with he
        subst he
        rw [Go.WideShapes.add_plain]
        exact hc j u hu

/-- Block g holds these cells. -/
def Row (w : World) (g : Nat) (cs : Array Value) (t : TypeId) : Prop := w.heap[g]? = some (.cells cs t (0, 0))

theorem Row.lt {w : World} {g : Nat} {cs : Array Value} {t : TypeId} (h : Row w g cs t) : g < w.heap.size := (Array.getElem?_eq_some_iff.1 h).1
theorem Row.cell {w : World} {g : Nat} {cs : Array Value} {t : TypeId} (h : Row w g cs t) (j : Nat) : w.cell? ⟨g, j, none⟩ = cs[j]? := cell_of_row w g j cs t _ h
theorem Row.thawed {w : World} {g : Nat} {cs : Array Value} {t : TypeId} (h : Row w g cs t) (j : Nat) : w.frozen? ⟨g, j, none⟩ = false := frozen_of_row w g j cs t h
theorem Row.grown {w w' : World} {g : Nat} {cs : Array Value} {t : TypeId} {r : Option Nat} (h : Row w g cs t) (hg : w.grownBy w' r) (hr : some g ≠ r) : Row w' g cs t := by
  unfold Row; rw [hg.block g h.lt hr]; exact h
theorem Row.below {w w' : World} {B g : Nat} {cs : Array Value} {t : TypeId} (h : Row w g cs t) (hb : Below B w w') (hg : g < B) : Row w' g cs t := by
  unfold Row; rw [hb.block g hg]; exact h
theorem Row.drew {w : World} {g : Nat} {cs : Array Value} {t : TypeId} (h : Row w g cs t) : Row w.drew g cs t := h
theorem Row.set {w : World} {g : Nat} {cs : Array Value} {t : TypeId} (h : Row w g cs t) (i : Nat) (v : Value) : Row (w.setCell ⟨g, i, none⟩ v) g (cs.setIfInBounds i v) t := heap_setCell_same w g i cs t v h
theorem Row.other {w : World} {g : Nat} {cs : Array Value} {t : TypeId} (h : Row w g cs t) {k : Nat} (hk : g ≠ k) (i : Nat) (v : Value) : Row (w.setCell ⟨k, i, none⟩ v) g cs t := by
  unfold Row; rw [heap_setCell_other w ⟨k, i, none⟩ g v hk]; exact h
theorem Row.new (w : World) (cs : Array Value) (t : TypeId) : Row (w.alloc (.cells cs t)) w.heap.size cs t := heap_alloc_new w _

theorem grown_setCell (w : World) (g i : Nat) (v : Value) : w.grownBy (w.setCell ⟨g, i, none⟩ v) (some g) :=
  ⟨rfl, rfl, rfl, by simp [World.setCell], fun k _ hk => heap_setCell_other w ⟨g, i, none⟩ k v (fun e => hk (by rw [e]))⟩
theorem grown_drew {w w' : World} {r : Option Nat} (h : w.grownBy w' r) : w.grownBy w'.drew r := ⟨h.os, h.tape, h.output, h.size, h.block⟩
theorem grown_of_below {w w' : World} (h : Below w.heap.size w w') : w.grownBy w' none := ⟨h.os, h.tape, h.output, h.size, fun k hk _ => h.block k hk⟩

/-- A slice that reads as a list and lies in none of the blocks S. -/
def RdS (w : World) (S : List Nat) (A : Option Addr) (n : Nat) (xs : List Value) : Prop :=
  xs.length = n ∧ (0 < n → ∃ b o, A = some ⟨b, o, none⟩ ∧ b ∉ S ∧ b < w.heap.size ∧ ∀ j u, xs[j]? = some u → w.cell? ⟨b, o + j, none⟩ = some u)
theorem RdS.grown {w w' : World} {S : List Nat} {A : Option Addr} {n : Nat} {xs : List Value} (h : RdS w S A n xs) {r : Option Nat} (hg : w.grownBy w' r) (hr : ∀ g, r = some g → g ∈ S) : RdS w' S A n xs := by
  refine ⟨h.1, fun hn => ?_⟩
  obtain ⟨b, o, rfl, hb, hlt, hc⟩ := h.2 hn
  exact ⟨b, o, rfl, hb, Nat.lt_of_lt_of_le hlt hg.size, fun j u hu => (World.cell?_of_block (w := w) (a := ⟨b, o + j, none⟩) (hg.block b hlt (fun e => hb (hr b e.symm)))).trans (hc j u hu)⟩
theorem RdS.less {w : World} {S S' : List Nat} {A : Option Addr} {n : Nat} {xs : List Value} (h : RdS w S A n xs) (hs : ∀ g ∈ S', g ∈ S) : RdS w S' A n xs := by
  refine ⟨h.1, fun hn => ?_⟩
  obtain ⟨b, o, rfl, hb, hlt, hc⟩ := h.2 hn
  exact ⟨b, o, rfl, fun e => hb (hs b e), hlt, hc⟩
theorem RdS.rd {w : World} {S : List Nat} {A : Option Addr} {n : Nat} {xs : List Value} (h : RdS w S A n xs) : Rd w w.heap.size A n xs := by
  refine ⟨h.1, fun hn => ?_⟩
  obtain ⟨b, o, rfl, hb, hlt, hc⟩ := h.2 hn
  exact ⟨b, o, rfl, hlt, hc⟩
theorem Rd.rdS {w : World} {B : Nat} {A : Option Addr} {n : Nat} {xs : List Value} (h : Rd w B A n xs) (hB : B ≤ w.heap.size) {S : List Nat} (hS : ∀ g ∈ S, B ≤ g) : RdS w S A n xs := by
  refine ⟨h.1, fun hn => ?_⟩
  obtain ⟨b, o, rfl, hb, hc⟩ := h.2 hn
  exact ⟨b, o, rfl, fun e => by have := hS b e; omega, by omega, hc⟩
theorem RdS.at8 {w : World} {S : List Nat} {A : Option Addr} {n : Nat} {l : List UInt8} (h : RdS w S A n (us l)) {k : Nat} (hk : k < n) :
    ∃ b o x, A = some ⟨b, o, none⟩ ∧ l[k]? = some x ∧ w.cell? ⟨b, o + k, none⟩ = some (.int .u8 (x.toNat : Int)) := by
  obtain ⟨g, o, x, h1, _, h2, h3⟩ := h.rd.at8 hk
  exact ⟨g, o, x, h1, h2, h3⟩
theorem Rd.part {w : World} {B : Nat} {n : Nat} {xs : List Value} {g o : Nat} (h : Rd w B (some ⟨g, o, none⟩) n xs) (i m : Nat) (hi : i + m ≤ n) : Rd w B (some ⟨g, o + i, none⟩) m ((xs.drop i).take m) := by
  refine ⟨by rw [List.length_take, List.length_drop, h.1]; omega, fun hm => ?_⟩
  obtain ⟨g', o', he, hg, hc⟩ := h.2 (by omega)
  injection he with he
  injection he with e1 e2 e3
  subst e1 e2
  refine ⟨g, o + i, rfl, hg, fun j u hu => ?_⟩
  rw [Nat.add_assoc]
  refine hc (i + j) u ?_
  rw [List.getElem?_take] at hu
  split at hu
  · rw [List.getElem?_drop] at hu; exact hu
  · cases hu
theorem take_more {α : Type} {l : List α} {k : Nat} {x : α} (h : l[k]? = some x) : l.take (k + 1) = l.take k ++ [x] := by
  rw [List.take_add_one, h]; rfl

end Go.Proofs.YtpnnlhegncbfaaaGreatDoor
namespace Go.Proofs.YtpnnlhegncbfaaaGreatDoor
set_option maxRecDepth 20000

/-- The number of bytes, the first one the lowest. -/
def numL : List UInt8 → Nat
  | [] => 0
  | x :: r => x.toNat + 256 * numL r
/-- The number of bits, each a byte of its own, the first one the lowest. -/
def numB : List UInt8 → Nat
  | [] => 0
  | x :: r => x.toNat + 2 * numB r

theorem pow8 (n : Nat) : 2 ^ (8 * n) = 256 ^ n := by rw [Nat.pow_mul]
theorem numL_append (a b : List UInt8) : numL (a ++ b) = numL a + 2 ^ (8 * a.length) * numL b := by
  induction a with
  | nil => simp [numL]
  | cons x a ih =>
    simp only [List.cons_append, numL, ih, List.length_cons]
    rw [show 8 * (a.length + 1) = 8 * a.length + 8 by omega, Nat.pow_add, Nat.mul_add, ← Nat.mul_assoc, Nat.add_assoc, Nat.mul_comm (2 ^ (8 * a.length)) (2 ^ 8)]
theorem numL_lt (l : List UInt8) : numL l < 2 ^ (8 * l.length) := by
  induction l with
  | nil => simp [numL]
  | cons x l ih =>
    simp only [numL, List.length_cons]
    rw [show 8 * (l.length + 1) = 8 * l.length + 8 by omega, Nat.pow_add]
    have : x.toNat < 256 := x.toNat_lt
    generalize 2 ^ (8 * l.length) = P at ih ⊢
    omega
theorem numL_inj : ∀ (a b : List UInt8), a.length = b.length → numL a = numL b → a = b
  | [], [], _, _ => rfl
  | x :: a, y :: b, hl, hn => by
    simp only [numL] at hn
    have hx : x.toNat < 256 := x.toNat_lt
    have hy : y.toNat < 256 := y.toNat_lt
    have h1 : x = y := UInt8.toNat_inj.1 (by omega)
    subst h1
    rw [numL_inj a b (by simpa using hl) (by omega)]
theorem numL_part (l : List UInt8) (f n : Nat) (h : f + n ≤ l.length) : numL ((l.drop f).take n) = numL l / 2 ^ (8 * f) % 2 ^ (8 * n) := by
  have e1 : l = l.take f ++ ((l.drop f).take n ++ (l.drop f).drop n) := by rw [List.take_append_drop, List.take_append_drop]
  have h1 := numL_lt (l.take f)
  have h2 := numL_lt ((l.drop f).take n)
  have l1 : (l.take f).length = f := by rw [List.length_take]; omega
  have l2 : ((l.drop f).take n).length = n := by rw [List.length_take, List.length_drop]; omega
  have hs : numL l = numL (l.take f) + 2 ^ (8 * f) * (numL ((l.drop f).take n) + 2 ^ (8 * n) * numL ((l.drop f).drop n)) := by
    conv => lhs; rw [e1]
    rw [numL_append, numL_append, l1, l2]
  rw [l1] at h1
  rw [l2] at h2
  rw [hs, Nat.add_mul_div_left _ _ (Nat.two_pow_pos _), Nat.div_eq_of_lt h1, Nat.zero_add, Nat.add_mul_mod_self_left, Nat.mod_eq_of_lt h2]
theorem numL_at (l : List UInt8) (k : Nat) (x : UInt8) (h : l[k]? = some x) : x.toNat = numL l / 2 ^ (8 * k) % 256 := by
  obtain ⟨hk, rfl⟩ := List.getElem?_eq_some_iff.1 h
  have := numL_part l k 1 (by omega)
  rw [List.take_one, List.head?_drop, h] at this
  simpa [numL] using this
theorem numL_set (l : List UInt8) (k : Nat) (x y : UInt8) (h : l[k]? = some x) : numL (l.set k y) + x.toNat * 2 ^ (8 * k) = numL l + y.toNat * 2 ^ (8 * k) := by
  induction l generalizing k with
  | nil => simp at h
  | cons z l ih =>
    cases k with
    | zero => simp at h; subst h; simp [numL]; omega
    | succ k =>
      have := ih k (by simpa using h)
      simp only [List.set_cons_succ, numL]
      rw [show 8 * (k + 1) = 8 * k + 8 by omega, Nat.pow_add, ← Nat.mul_assoc, ← Nat.mul_assoc]
      omega

theorem numB_append (a b : List UInt8) : numB (a ++ b) = numB a + 2 ^ a.length * numB b := by
  induction a with
  | nil => simp [numB]
  | cons x a ih =>
    simp only [List.cons_append, numB, ih, List.length_cons]
    rw [Nat.pow_succ, Nat.mul_add, ← Nat.mul_assoc, Nat.add_assoc, Nat.mul_comm (2 ^ a.length) 2]
/-- Each is a bit. -/
def Bin (m : List UInt8) : Prop := ∀ b ∈ m, b.toNat < 2
theorem Bin.nil : Bin [] := fun b h => by cases h
theorem Bin.append {a b : List UInt8} (h : Bin a) (h' : Bin b) : Bin (a ++ b) := fun x hx => by
  rcases List.mem_append.1 hx with h1 | h1
  · exact h x h1
  · exact h' x h1
theorem Bin.take {a : List UInt8} (h : Bin a) (k : Nat) : Bin (a.take k) := fun x hx => h x (List.mem_of_mem_take hx)
theorem Bin.drop {a : List UInt8} (h : Bin a) (k : Nat) : Bin (a.drop k) := fun x hx => h x (List.mem_of_mem_drop hx)
theorem Bin.at {a : List UInt8} (h : Bin a) {k : Nat} {x : UInt8} (hx : a[k]? = some x) : x.toNat < 2 := h x (List.mem_of_getElem? hx)
theorem numB_lt {l : List UInt8} (h : Bin l) : numB l < 2 ^ l.length := by
  induction l with
  | nil => simp [numB]
  | cons x l ih =>
    simp only [numB, List.length_cons]
    have h1 := h x (by simp)
    have h2 := ih (fun b hb => h b (List.mem_cons_of_mem _ hb))
    rw [Nat.pow_succ]
    generalize 2 ^ l.length = P at h2 ⊢
    omega
theorem numB_part {l : List UInt8} (hb : Bin l) (f n : Nat) (h : f + n ≤ l.length) : numB ((l.drop f).take n) = numB l / 2 ^ f % 2 ^ n := by
  have e1 : l = l.take f ++ ((l.drop f).take n ++ (l.drop f).drop n) := by rw [List.take_append_drop, List.take_append_drop]
  have h1 := numB_lt (hb.take f)
  have h2 := numB_lt ((hb.drop f).take n)
  have l1 : (l.take f).length = f := by rw [List.length_take]; omega
  have l2 : ((l.drop f).take n).length = n := by rw [List.length_take, List.length_drop]; omega
  have hs : numB l = numB (l.take f) + 2 ^ f * (numB ((l.drop f).take n) + 2 ^ n * numB ((l.drop f).drop n)) := by
    conv => lhs; rw [e1]
    rw [numB_append, numB_append, l1, l2]
  rw [l1] at h1
  rw [l2] at h2
  rw [hs, Nat.add_mul_div_left _ _ (Nat.two_pow_pos _), Nat.div_eq_of_lt h1, Nat.zero_add, Nat.add_mul_mod_self_left, Nat.mod_eq_of_lt h2]
theorem numB_drop {l : List UInt8} {k : Nat} {x : UInt8} (h : l[k]? = some x) : numB (l.drop k) = x.toNat + 2 * numB (l.drop (k + 1)) := by
  obtain ⟨hk, rfl⟩ := List.getElem?_eq_some_iff.1 h
  rw [List.drop_eq_getElem_cons hk]
  rfl

/-- n bits of the number N from the bit p on. -/
def fld (N p n : Nat) : Nat := N / 2 ^ p % 2 ^ n
theorem fld_lt (N p n : Nat) : fld N p n < 2 ^ n := Nat.mod_lt _ (Nat.two_pow_pos n)

/-- A number's bit. -/
def bitN (x k : Nat) : UInt8 := UInt8.ofNat (x / 2 ^ k % 2)
theorem bitN_toNat (x k : Nat) : (bitN x k).toNat = x / 2 ^ k % 2 := by
  unfold bitN; rw [UInt8.toNat_ofNat']; have : x / 2 ^ k % 2 < 2 := Nat.mod_lt _ (by decide); omega
theorem bitN_lt (x k : Nat) : (bitN x k).toNat < 2 := by rw [bitN_toNat]; exact Nat.mod_lt _ (by decide)
/-- A number's n lowest bits, the lowest one first. -/
def lowB (x n : Nat) : List UInt8 := (List.range n).map (bitN x)
theorem lowB_length (x n : Nat) : (lowB x n).length = n := by simp [lowB]
theorem lowB_succ (x n : Nat) : lowB x (n + 1) = lowB x n ++ [bitN x n] := by simp [lowB, List.range_succ]
theorem lowB_at (x n k : Nat) (h : k < n) : (lowB x n)[k]? = some (bitN x k) := by simp [lowB, List.getElem?_range h]
theorem lowB_take (x n k : Nat) (h : k ≤ n) : (lowB x n).take k = lowB x k := by
  unfold lowB; rw [← List.map_take, List.take_range, Nat.min_eq_left h]
theorem bin_lowB (x n : Nat) : Bin (lowB x n) := fun b hb => by
  obtain ⟨k, _, rfl⟩ := List.mem_map.1 hb
  exact bitN_lt x k
theorem numB_lowB (x n : Nat) : numB (lowB x n) = x % 2 ^ n := by
  induction n with
  | zero => simp [lowB, numB, Nat.mod_one]
  | succ n ih =>
    rw [lowB_succ, numB_append, ih, lowB_length, Nat.mod_pow_succ]
    simp [numB, bitN_toNat]
theorem bitN_half (x k : Nat) : bitN (x / 2) k = bitN x (k + 1) := by
  unfold bitN; rw [Nat.div_div_eq_div_mul, Nat.pow_succ, Nat.mul_comm 2]
theorem lowB_cons (x n : Nat) : lowB x (n + 1) = bitN x 0 :: lowB (x / 2) n := by
  unfold lowB
  rw [List.range_succ_eq_map, List.map_cons, List.map_map]
  congr 1
  apply List.map_congr_left
  intro k _
  exact (bitN_half x k).symm

/-- The program's way to turn n bits of x round, ahead of them t. -/
def turn (t x : Nat) : Nat → Nat
  | 0 => t
  | n + 1 => turn (2 * t + x % 2) (x / 2) n
theorem turn_ahead (t x n : Nat) : turn t x n = t * 2 ^ n + turn 0 x n := by
  induction n generalizing t x with
  | zero => simp [turn]
  | succ n ih =>
    rw [turn, turn, ih (2 * t + x % 2), ih (2 * 0 + x % 2), Nat.pow_succ]
    simp only [Nat.mul_zero, Nat.zero_add, Nat.add_mul]
    rw [Nat.mul_comm 2 t, Nat.mul_assoc, Nat.mul_comm 2 (2 ^ n), Nat.add_assoc]
theorem turn_rev (x n : Nat) : turn 0 x n = numB (lowB x n).reverse := by
  induction n generalizing x with
  | zero => rfl
  | succ n ih =>
    rw [turn, turn_ahead, lowB_cons, List.reverse_cons, numB_append, ih, List.length_reverse, lowB_length]
    simp [numB, bitN_toNat]
    rw [Nat.mul_comm, Nat.add_comm]
theorem bin_rev {m : List UInt8} (h : Bin m) : Bin m.reverse := fun b hb => h b (List.mem_reverse.1 hb)
theorem turn_lt (x n : Nat) : turn 0 x n < 2 ^ n := by
  rw [turn_rev]
  have := numB_lt (bin_rev (bin_lowB x n))
  rwa [List.length_reverse, lowB_length] at this
theorem turn_snoc (t x n : Nat) : turn t x (n + 1) = 2 * turn t x n + x / 2 ^ n % 2 := by
  induction n generalizing t x with
  | zero => simp [turn]
  | succ n ih =>
    rw [turn, ih, turn]
    rw [Nat.div_div_eq_div_mul, ← Nat.pow_succ']
theorem rev_at (x n k : Nat) (h : k < n) : (lowB x n).reverse[k]? = some (bitN x (n - 1 - k)) := by
  rw [List.getElem?_reverse (by rw [lowB_length]; exact h), lowB_length, lowB_at _ _ _ (by omega)]

/-- The bits of bytes. -/
def bitsL (l : List UInt8) : List UInt8 := l.flatMap fun x => lowB x.toNat 8
theorem bitsL_append (a b : List UInt8) : bitsL (a ++ b) = bitsL a ++ bitsL b := by simp [bitsL]
theorem bitsL_one (x : UInt8) : bitsL [x] = lowB x.toNat 8 := by simp [bitsL]
theorem bitsL_length (l : List UInt8) : (bitsL l).length = 8 * l.length := by
  induction l with
  | nil => rfl
  | cons x l ih =>
    rw [show x :: l = [x] ++ l from rfl, bitsL_append, List.length_append, ih, bitsL_one, lowB_length]
    simp; omega
theorem bin_bitsL (l : List UInt8) : Bin (bitsL l) := fun b hb => by
  obtain ⟨x, _, h⟩ := List.mem_flatMap.1 hb
  exact bin_lowB _ _ b h
theorem numB_bitsL (l : List UInt8) : numB (bitsL l) = numL l := by
  induction l with
  | nil => rfl
  | cons x l ih =>
    rw [show x :: l = [x] ++ l from rfl, bitsL_append, numB_append, ih, bitsL_one, numB_lowB, lowB_length]
    have : x.toNat < 256 := x.toNat_lt
    show x.toNat % 256 + 256 * numL l = x.toNat + 256 * numL l
    omega

theorem or_add (x y r : Nat) (h : x < 2 ^ r) : x ||| y * 2 ^ r = x + y * 2 ^ r := by
  rw [Nat.mul_comm, Nat.or_comm, ← Nat.two_pow_add_eq_or_of_lt h, Nat.add_comm]
end Go.Proofs.YtpnnlhegncbfaaaGreatDoor
namespace Go.Proofs.YtpnnlhegncbfaaaGreatDoor
set_option maxRecDepth 20000
open Go.RowKit

/-- An error by its number; 0: none. -/
def errV : Nat → Value
  | 0 => .nilIface
  | k + 1 => .iface 39 (.int .i64 ((k + 1 : Nat) : Int))

theorem as62 (k : Int) (w : World) : (Instr.typeAssert (.iface 39 (.int .i64 k)) 25 39 true).run Tryz.prog w = .ok (.tuple #[.int .i64 k, .bool true]) w := by kernel_rfl

set_option maxHeartbeats 400000 in
theorem num_any (k : Nat) (w : World) : Calls Tryz.prog 11 #[errV k] w fun e w' => e = .returned (.int .i64 (k : Int)) ∧ w' = w := by
  cases k with
  | zero =>
    rw [show errV 0 = .nilIface from rfl]
    go_enter Tryz.func11, Tryz.ntmps11
    go_wp2_with fail
    go_ret
    exact ⟨rfl, rfl⟩
  | succ k =>
    rw [show errV (k + 1) = .iface 39 (.int .i64 ((k + 1 : Nat) : Int)) from rfl]
    obtain ⟨z, hz⟩ : ∃ z : Int, ((k + 1 : Nat) : Int) = z := ⟨_, rfl⟩
    rw [hz]
    have hz0 : (z == 0) = false := by rw [beq_eq_false_iff_ne]; omega
    have hz1 : (z != 0) = true := by rw [bne_iff_ne]; omega
    have h1 := as62 z w
    clear hz
    go_enter Tryz.func11, Tryz.ntmps11
    go_wp2_with fail
    go_ret
    exact ⟨rfl, rfl⟩

theorem odd32 (x : Nat) (hx : x < 4294967296) : bits .and .u32 (x : Int) 1 = ((x % 2 : Nat) : Int) := by
  have := u32_and_nat x 1 hx (by decide)
  rw [Nat.and_one_is_mod] at this
  exact this
theorem or32 (t x : Nat) (ht : t < 2147483648) : bits .or .u32 ((t : Int) * 2) ((x : Int) % 2) = ((2 * t + x % 2 : Nat) : Int) := by
  have h1 : (t : Int) * 2 = ((2 * t : Nat) : Int) := by omega
  have h2 : (x : Int) % 2 = ((x % 2 : Nat) : Int) := by omega
  rw [h1, h2, u32_or_nat _ _ (by omega) (by omega)]
  have := Nat.two_pow_add_eq_or_of_lt (i := 1) (b := x % 2) (by omega) t
  simp at this
  rw [← this]

theorem some22 (a : Addr) (n c : Nat) (w : World) : (binOp .eql 22 (.slice (some a) n c) (.slice none 0 0)).run Tryz.prog w = .ok (.bool false) w := by kernel_rfl
theorem none22 (w : World) : (binOp .eql 22 (.slice none 0 0) (.slice none 0 0)).run Tryz.prog w = .ok (.bool true) w := by kernel_rfl

set_option maxHeartbeats 400000 in
/-- slices.Clone -/
theorem clone_any (A : Option Addr) (n c : Nat) (l : List UInt8) (w : World) (hr : Rd w w.heap.size A n (us l)) (hA : A = none → c = 0) (hn : n ≤ 1000000) :
    Calls Tryz.prog 73 #[.slice A n c] w fun e w' => ∃ v, e = .returned v ∧ Own w' w.heap.size v l ∧ w.grownBy w' none := by
  have hl : l.length = n := by have := hr.1; rwa [us_length] at this
  rcases A with _ | a
  · have h0 : n = 0 := by
      rcases Nat.eq_zero_or_pos n with h0 | h0
      · exact h0
      · obtain ⟨g, o, he, _⟩ := hr.2 h0; cases he
    subst h0
    have : l = [] := List.eq_nil_of_length_eq_zero hl
    subst this
    have hc := hA rfl
    subst hc
    have hn := none22 w
    go_enter Tryz.func73, Tryz.ntmps73
    go_wp2_with fail
    go_ret
    exact ⟨_, rfl, Own.nil _ _, World.grownBy.refl _ _⟩
  · obtain ⟨b, off, sp⟩ := a
    have HR := Lib.hid hr
    have HA := Lib.hid hA
    have HO := Lib.hid (Own.lit w #[] [] 0 rfl rfl (by decide))
    have HG := Lib.hid (World.grownBy_alloc w (.cells #[] 5) none)
    clear hr hA
    have hn := some22 ⟨b, off, sp⟩ n c w
    go_enter Tryz.func73, Tryz.ntmps73
    go_wp2_with (at_builtin; refine cat8 (w.alloc (.cells #[] 5)) rfl (.tmp 5) (.tmp 6) rfl w.heap.size w.heap.size _ [] l _ n c rfl rfl HO.out (HR.out.below (below_make HG.out)) HA.out (by simp) (by simp; omega) ?_)
    intro v' w' ho hg _
    have hgw : w.grownBy w' none := ⟨hg.os.trans HG.out.os, hg.tape.trans HG.out.tape, hg.output.trans HG.out.output, Nat.le_trans HG.out.size hg.size, fun k hk _ => (hg.block k (by simp; omega) (by simp [Value.ownBlock]; omega)).trans (HG.out.block k hk (by simp))⟩
    have HO2 := Lib.hid ho
    have HG2 := Lib.hid hgw
    clear ho hg hgw
    go_wp2_with fail
    go_ret
    exact ⟨_, rfl, HO2.out, HG2.out⟩

theorem grown_drewN (w : World) (m : Nat) : w.grownBy (w.drewN m) none := ⟨rfl, rfl, rfl, Nat.le_refl _, fun _ _ _ => rfl⟩
theorem noCap' {w : World} {B : Nat} {A : Option Addr} {n c : Nat} {l : List UInt8} (h : Own w B (.slice A n c) l) : A = none → c = 0 := by
  intro hA
  rcases h.2 with ⟨h1, _⟩ | ⟨g', cap, cur, h1, _⟩
  · injection h1
  · injection h1 with h2; rw [hA] at h2; cases h2
theorem own_le {w : World} {B : Nat} {A : Option Addr} {n c : Nat} {l : List UInt8} (h : Own w B (.slice A n c) l) : n ≤ c := by
  rcases h.2 with ⟨h1, _⟩ | ⟨g', cap, cur, h1, _, _, h4, _⟩
  · injection h1 with h2 h3 h4; omega
  · injection h1 with h2 h3 h5; omega
theorem own_form {w : World} {B : Nat} {A : Option Addr} {n c : Nat} {l : List UInt8} (h : Own w B (.slice A n c) l) : A = none ∨ ∃ b o, A = some ⟨b, o, none⟩ := by
  rcases h.2 with ⟨h1, _⟩ | ⟨g', cap, cur, h1, _⟩
  · injection h1 with h2; exact .inl h2
  · injection h1 with h2; exact .inr ⟨g', 0, h2⟩
theorem grown_any {w w' : World} (h : w.grownBy w' none) (r : Option Nat) : w.grownBy w' r := ⟨h.os, h.tape, h.output, h.size, fun k hk _ => h.block k hk (by simp)⟩
theorem own_mono {w : World} {B B' : Nat} {v : Value} {l : List UInt8} (h : Own w B v l) (hb : B' ≤ B) : Own w B' v l := by
  refine ⟨h.1, ?_⟩
  rcases h.2 with h1 | ⟨g, cap, cur, h1, h2, h3⟩
  · exact .inl h1
  · exact .inr ⟨g, cap, cur, h1, by omega, h3⟩
end Go.Proofs.YtpnnlhegncbfaaaGreatDoor
