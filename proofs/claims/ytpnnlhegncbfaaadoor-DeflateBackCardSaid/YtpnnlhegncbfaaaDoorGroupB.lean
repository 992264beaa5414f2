
/- Contracts of what is small: Num, Is, Bytes of crossdocknum; the calls of nil; refusal; turnedRound; slices.Clone. -/

/- Codes told by their lengths, as plain functions: counts, first codes, starts, each sign's code, and what bits begin with. No program is named here. -/

/- Laws for whole rows: a variable made, boxed, loaded or stored as a whole or in part, over worlds that are known by facts alone. -/
import Derived.Test.YtpnnlhegncbfaaaDoorGroupA
import Derived.Deep.WholeRow
import Derived.Laws.CopyRow
import Derived.Deep.Cut
import Derived.Deep.OwnRows
namespace Go.Proofs.YtpnnlhegncbfaaaDoor
set_option maxRecDepth 20000
open Go.RowKit

/-- An error by its number; 0: none. -/
def errV : Nat → Value
  | 0 => .nilIface
  | k + 1 => .iface 50 (.int .i64 ((k + 1 : Nat) : Int))

theorem as62 (k : Int) (w : World) : (Instr.typeAssert (.iface 50 (.int .i64 k)) 26 50 true).run Tryd.prog w = .ok (.tuple #[.int .i64 k, .bool true]) w := by kernel_rfl

set_option maxHeartbeats 400000 in
theorem num_any (k : Nat) (w : World) : Calls Tryd.prog 15 #[errV k] w fun e w' => e = .returned (.int .i64 (k : Int)) ∧ w' = w := by
  cases k with
  | zero =>
    rw [show errV 0 = .nilIface from rfl]
    go_enter Tryd.func15, Tryd.ntmps15
    go_wp2_with fail
    go_ret
    exact ⟨rfl, rfl⟩
  | succ k =>
    rw [show errV (k + 1) = .iface 50 (.int .i64 ((k + 1 : Nat) : Int)) from rfl]
    obtain ⟨z, hz⟩ : ∃ z : Int, ((k + 1 : Nat) : Int) = z := ⟨_, rfl⟩
    rw [hz]
    have hz0 : (z == 0) = false := by rw [beq_eq_false_iff_ne]; omega
    have hz1 : (z != 0) = true := by rw [bne_iff_ne]; omega
    have h1 := as62 z w
    clear hz
    go_enter Tryd.func15, Tryd.ntmps15
    go_wp2_with fail
    go_ret
    exact ⟨rfl, rfl⟩

theorem odd32 (x : Nat) (hx : x < 4294967296) : bits .and .u32 (x : Int) 1 = ((x % 2 : Nat) : Int) := by
  have := u32_and_nat x 1 hx (by decide)
  rw [Nat.and_one_is_mod] at this
  exact this
theorem or32 (t x : Nat) (ht : t < 2147483648) : bits .or .u32 ((t : Int) * 2) ((x : Int) % 2) = ((2 * t + x % 2 : Nat) : Int) := by
  have h1 : (t : Int) * 2 = ((2 * t : Nat) : Int) := by omega
  have h2 : (x : Int) % 2 = ((x % 2 : Nat) : Int) := by omega
  rw [h1, h2, u32_or_nat _ _ (by omega) (by omega)]
  have := Nat.two_pow_add_eq_or_of_lt (i := 1) (b := x % 2) (by omega) t
  simp at this
  rw [← this]

theorem some22 (a : Addr) (n c : Nat) (w : World) : (binOp .eql 22 (.slice (some a) n c) (.slice none 0 0)).run Tryd.prog w = .ok (.bool false) w := by kernel_rfl
theorem none22 (w : World) : (binOp .eql 22 (.slice none 0 0) (.slice none 0 0)).run Tryd.prog w = .ok (.bool true) w := by kernel_rfl

set_option maxHeartbeats 400000 in
/-- slices.Clone -/
theorem clone_any (A : Option Addr) (n c : Nat) (l : List UInt8) (w : World) (hr : Rd w w.heap.size A n (us l)) (hA : A = none → c = 0) (hn : n ≤ 1000000) :
    Calls Tryd.prog 38 #[.slice A n c] w fun e w' => ∃ v, e = .returned v ∧ Own w' w.heap.size v l ∧ w.grownBy w' none := by
  have hl : l.length = n := by have := hr.1; rwa [us_length] at this
  rcases A with _ | a
  · have h0 : n = 0 := by
      rcases Nat.eq_zero_or_pos n with h0 | h0
      · exact h0
      · obtain ⟨g, o, he, _⟩ := hr.2 h0; cases he
    subst h0
    have : l = [] := List.eq_nil_of_length_eq_zero hl
    subst this
    have hc := hA rfl
    subst hc
    have hn := none22 w
    go_enter Tryd.func38, Tryd.ntmps38
    go_wp2_with fail
    go_ret
    exact ⟨_, rfl, Own.nil _ _, World.grownBy.refl _ _⟩
  · obtain ⟨b, off, sp⟩ := a
    have HR := Lib.hid hr
    have HA := Lib.hid hA
    have HO := Lib.hid (Own.lit w #[] [] 0 rfl rfl (by decide))
    have HG := Lib.hid (World.grownBy_alloc w (.cells #[] 5) none)
    clear hr hA
    have hn := some22 ⟨b, off, sp⟩ n c w
    go_enter Tryd.func38, Tryd.ntmps38
    go_wp2_with (at_builtin; refine cat8 (w.alloc (.cells #[] 5)) rfl (.tmp 5) (.tmp 6) rfl w.heap.size w.heap.size _ [] l _ n c rfl rfl HO.out (HR.out.below (below_make HG.out)) HA.out (by simp) (by simp; omega) ?_)
    intro v' w' ho hg _
    have hgw : w.grownBy w' none := ⟨hg.os.trans HG.out.os, hg.tape.trans HG.out.tape, hg.output.trans HG.out.output, Nat.le_trans HG.out.size hg.size, fun k hk _ => (hg.block k (by simp; omega) (by simp [Value.ownBlock]; omega)).trans (HG.out.block k hk (by simp))⟩
    have HO2 := Lib.hid ho
    have HG2 := Lib.hid hgw
    clear ho hg hgw
    go_wp2_with fail
    go_ret
    exact ⟨_, rfl, HO2.out, HG2.out⟩

theorem grown_drewN (w : World) (m : Nat) : w.grownBy (w.drewN m) none := ⟨rfl, rfl, rfl, Nat.le_refl _, fun _ _ _ => rfl⟩
theorem noCap' {w : World} {B : Nat} {A : Option Addr} {n c : Nat} {l : List UInt8} (h : Own w B (.slice A n c) l) : A = none → c = 0 := by
  intro hA
  rcases h.2 with ⟨h1, _⟩ | ⟨g', cap, cur, h1, _⟩
  · injection h1
  · injection h1 with h2; rw [hA] at h2; cases h2
theorem own_le {w : World} {B : Nat} {A : Option Addr} {n c : Nat} {l : List UInt8} (h : Own w B (.slice A n c) l) : n ≤ c := by
  rcases h.2 with ⟨h1, _⟩ | ⟨g', cap, cur, h1, _, _, h4, _⟩
  · injection h1 with h2 h3 h4; omega
  · injection h1 with h2 h3 h5; omega
theorem own_form {w : World} {B : Nat} {A : Option Addr} {n c : Nat} {l : List UInt8} (h : Own w B (.slice A n c) l) : A = none ∨ ∃ b o, A = some ⟨b, o, none⟩ := by
  rcases h.2 with ⟨h1, _⟩ | ⟨g', cap, cur, h1, _⟩
  · injection h1 with h2; exact .inl h2
  · injection h1 with h2; exact .inr ⟨g', 0, h2⟩
theorem grown_any {w w' : World} (h : w.grownBy w' none) (r : Option Nat) : w.grownBy w' r := ⟨h.os, h.tape, h.output, h.size, fun k hk _ => h.block k hk (by simp)⟩
theorem own_mono {w : World} {B B' : Nat} {v : Value} {l : List UInt8} (h : Own w B v l) (hb : B' ≤ B) : Own w B' v l := by
  refine ⟨h.1, ?_⟩
  rcases h.2 with h1 | ⟨g, cap, cur, h1, h2, h3⟩
  · exact .inl h1
  · exact .inr ⟨g, cap, cur, h1, by omega, h3⟩
end Go.Proofs.YtpnnlhegncbfaaaDoor
namespace Go.Proofs.YtpnnlhegncbfaaaDoor
set_option maxRecDepth 20000

/-- How many signs have the length k. -/
def cnt (l : List Nat) (k : Nat) : Nat := l.count k
/-- The first code of a length, by the counts. -/
def fst (c : Nat → Nat) : Nat → Nat
  | 0 => 0
  | 1 => 0
  | k + 2 => 2 * (fst c (k + 1) + c (k + 1))
/-- How many signs have a shorter code. -/
def st (c : Nat → Nat) : Nat → Nat
  | 0 => 0
  | 1 => 0
  | k + 2 => st c (k + 1) + c (k + 1)
theorem fst_succ (c : Nat → Nat) {k : Nat} (h : 1 ≤ k) : fst c (k + 1) = 2 * (fst c k + c k) := by
  obtain ⟨j, rfl⟩ : ∃ j, k = j + 1 := ⟨k - 1, by omega⟩
  rfl
theorem st_succ (c : Nat → Nat) {k : Nat} (h : 1 ≤ k) : st c (k + 1) = st c k + c k := by
  obtain ⟨j, rfl⟩ : ∃ j, k = j + 1 := ⟨k - 1, by omega⟩
  rfl
/-- The lengths don't overflow, up to n. -/
def okTo (c : Nat → Nat) (n : Nat) : Prop := ∀ k, k < n → k = 0 ∨ fst c k + c k ≤ 2 ^ k
instance (c : Nat → Nat) (n : Nat) : Decidable (okTo c n) := by unfold okTo; infer_instance
def okF (c : Nat → Nat) : Prop := okTo c 16
instance (c : Nat → Nat) : Decidable (okF c) := by unfold okF; infer_instance
theorem okTo_succ {c : Nat → Nat} {n : Nat} (h : okTo c n) (hn : fst c n + c n ≤ 2 ^ n) : okTo c (n + 1) := fun k hk => by
  rcases Nat.lt_or_ge k n with h1 | h1
  · exact h k h1
  · obtain rfl : k = n := by omega
    exact .inr hn
def loneF (c : Nat → Nat) : Prop := st c 16 = 0 ∨ (st c 16 = 1 ∧ c 1 = 1)
instance (c : Nat → Nat) : Decidable (loneF c) := by unfold loneF; infer_instance

theorem fst_le {c : Nat → Nat} (h : okF c) {k : Nat} (hk : k ≤ 16) : fst c k ≤ 2 ^ k := by
  rcases k with _ | _ | k
  · simp [fst]
  · simp [fst]
  · rw [fst_succ c (by omega)]
    rcases h (k + 1) (by omega) with h0 | h0
    · omega
    · rw [Nat.pow_succ]; omega
theorem fst_step (c : Nat → Nat) {j k : Nat} (hj : 1 ≤ j) (hk : j < k) : (fst c j + c j) * 2 ^ (k - j) ≤ fst c k := by
  induction k with
  | zero => omega
  | succ k ih =>
    rcases Nat.lt_or_ge j k with h | h
    · have h1 := ih h
      rw [fst_succ c (by omega), show k + 1 - j = (k - j) + 1 by omega, Nat.pow_succ, ← Nat.mul_assoc]
      omega
    · obtain rfl : j = k := by omega
      rw [fst_succ c hj, show j + 1 - j = 1 by omega]
      omega
theorem st_step (c : Nat → Nat) {j k : Nat} (hj : 1 ≤ j) (hk : j < k) : st c j + c j ≤ st c k := by
  induction k with
  | zero => omega
  | succ k ih =>
    rcases Nat.lt_or_ge j k with h | h
    · have h1 := ih h
      rw [st_succ c (by omega)]
      omega
    · obtain rfl : j = k := by omega
      rw [st_succ c hj]
      exact Nat.le_refl _
theorem cnt_cons (x : Nat) (l : List Nat) (k : Nat) : cnt (x :: l) k = (if x = k then 1 else 0) + cnt l k := by
  unfold cnt
  rw [List.count_cons]
  by_cases h : x = k
  · simp [h]; omega
  · simp [h]
theorem cnt_snoc (l : List Nat) (x k : Nat) : cnt (l ++ [x]) k = cnt l k + (if x = k then 1 else 0) := by
  unfold cnt
  rw [List.count_append, List.count_singleton]
  by_cases h : x = k
  · simp [h]
  · simp [h]
theorem cnt_le (l : List Nat) (k : Nat) : cnt l k ≤ l.length := List.count_le_length
theorem st_add (c d : Nat → Nat) (k : Nat) : st (fun j => c j + d j) k = st c k + st d k := by
  induction k with
  | zero => rfl
  | succ k ih =>
    rcases Nat.eq_zero_or_pos k with h | h
    · subst h; rfl
    · rw [st_succ _ h, st_succ _ h, st_succ _ h, ih]; omega
theorem st_zero (k : Nat) : st (fun _ => 0) k = 0 := by
  induction k with
  | zero => rfl
  | succ k ih =>
    rcases Nat.eq_zero_or_pos k with h | h
    · subst h; rfl
    · rw [st_succ _ h, ih]
theorem st_one (x k : Nat) : st (fun j => if x = j then 1 else 0) k = if 1 ≤ x ∧ x < k then 1 else 0 := by
  induction k with
  | zero => rw [if_neg (by omega)]; rfl
  | succ k ih =>
    rcases Nat.eq_zero_or_pos k with h | h
    · subst h; show 0 = _; rw [if_neg (by omega)]
    · rw [st_succ _ h, ih]
      by_cases h1 : x = k
      · subst h1; simp; omega
      · simp only [h1, if_false, Nat.add_zero]
        by_cases h2 : 1 ≤ x ∧ x < k
        · rw [if_pos h2, if_pos (by omega)]
        · rw [if_neg h2, if_neg (by omega)]
/-- Each length is from 0 to 15. -/
def Low (l : List Nat) : Prop := ∀ x ∈ l, x ≤ 15
theorem st_total (l : List Nat) (h : Low l) : st (cnt l) 16 + cnt l 0 = l.length := by
  induction l with
  | nil =>
    have : cnt ([] : List Nat) = fun _ => 0 := by funext k; rfl
    rw [this, st_zero]; rfl
  | cons x l ih =>
    have hl := ih (fun y hy => h y (List.mem_cons_of_mem _ hy))
    have hx := h x (by simp)
    have e : cnt (x :: l) = fun j => (if x = j then 1 else 0) + cnt l j := by funext k; exact cnt_cons x l k
    rw [e, st_add, st_one]
    simp only [List.length_cons]
    by_cases h0 : x = 0
    · subst h0; simp; omega
    · rw [if_pos (by omega), if_neg h0]; omega

/-- A sign's length. -/
def lenAt (l : List Nat) (s : Nat) : Nat := l.getD s 0
/-- How many signs ahead have the same length. -/
def rank (l : List Nat) (s : Nat) : Nat := cnt (l.take s) (lenAt l s)
/-- A sign's code. -/
def codeAt (l : List Nat) (s : Nat) : Nat := if lenAt l s = 0 then 0 else fst (cnt l) (lenAt l s) + rank l s
/-- Where a sign stands among those that have a code. -/
def posAt (l : List Nat) (s : Nat) : Nat := st (cnt l) (lenAt l s) + rank l s
theorem lenAt_eq {l : List Nat} {s : Nat} (h : s < l.length) : l[s]? = some (lenAt l s) := by
  unfold lenAt
  rw [List.getElem?_eq_getElem h, List.getD_eq_getElem?_getD, List.getElem?_eq_getElem h]; rfl
theorem lenAt_ge {l : List Nat} {s : Nat} (h : l.length ≤ s) : lenAt l s = 0 := by
  unfold lenAt
  rw [List.getD_eq_getElem?_getD, List.getElem?_eq_none h]; rfl
theorem lenAt_low {l : List Nat} (h : Low l) (s : Nat) : lenAt l s ≤ 15 := by
  rcases Nat.lt_or_ge s l.length with h1 | h1
  · exact h _ (List.mem_of_getElem? (lenAt_eq h1))
  · rw [lenAt_ge h1]; omega
theorem lenAt_lt {l : List Nat} {s : Nat} (h : lenAt l s ≠ 0) : s < l.length := by
  rcases Nat.lt_or_ge s l.length with h1 | h1
  · exact h1
  · exact absurd (lenAt_ge h1) h
theorem cnt_take_succ {l : List Nat} {s : Nat} (h : s < l.length) (k : Nat) : cnt (l.take (s + 1)) k = cnt (l.take s) k + (if lenAt l s = k then 1 else 0) := by
  rw [take_more (lenAt_eq h), cnt_snoc]
theorem cnt_take_mono (l : List Nat) {s t : Nat} (h : s ≤ t) (k : Nat) : cnt (l.take s) k ≤ cnt (l.take t) k := by
  unfold cnt
  apply List.Sublist.count_le
  rw [← Nat.min_eq_left h, ← List.take_take]
  exact List.take_sublist _ _
theorem cnt_take_le (l : List Nat) (s k : Nat) : cnt (l.take s) k ≤ cnt l k := (List.take_sublist s l).count_le _
theorem rank_lt {l : List Nat} {s : Nat} (h : s < l.length) : rank l s < cnt l (lenAt l s) := by
  have h1 := cnt_take_succ h (lenAt l s)
  have h2 := cnt_take_le l (s + 1) (lenAt l s)
  rw [if_pos rfl] at h1
  unfold rank
  omega
theorem rank_up {l : List Nat} {s t : Nat} (h : s < t) (ht : t < l.length) (he : lenAt l s = lenAt l t) : rank l s < rank l t := by
  have h1 := cnt_take_succ (show s < l.length by omega) (lenAt l s)
  have h2 := cnt_take_mono l (show s + 1 ≤ t by omega) (lenAt l s)
  rw [if_pos rfl] at h1
  unfold rank
  rw [← he]
  omega
theorem rank_ne {l : List Nat} {s t : Nat} (h : s ≠ t) (hs : s < l.length) (ht : t < l.length) (he : lenAt l s = lenAt l t) : rank l s ≠ rank l t := by
  rcases Nat.lt_or_gt_of_ne h with h1 | h1
  · have := rank_up h1 ht he; omega
  · have := rank_up h1 hs he.symm; omega
theorem code_eq {l : List Nat} {s : Nat} (h : lenAt l s ≠ 0) : codeAt l s = fst (cnt l) (lenAt l s) + rank l s := by unfold codeAt; rw [if_neg h]
theorem code_lt {l : List Nat} {s : Nat} (h : lenAt l s ≠ 0) : codeAt l s < fst (cnt l) (lenAt l s) + cnt l (lenAt l s) := by
  rw [code_eq h]; have := rank_lt (lenAt_lt h); omega
theorem code_pow {l : List Nat} (hl : Low l) (ho : okF (cnt l)) (s : Nat) : codeAt l s < 2 ^ lenAt l s := by
  by_cases h : lenAt l s = 0
  · unfold codeAt; rw [if_pos h]; exact Nat.two_pow_pos _
  · have h1 := code_lt h
    rcases ho (lenAt l s) (by have := lenAt_low hl s; omega) with h2 | h2
    · exact absurd h2 h
    · omega
theorem code_ne_zero {l : List Nat} {s : Nat} (h : lenAt l s = 0) : codeAt l s = 0 := by unfold codeAt; rw [if_pos h]
/-- No code begins with another one. -/
theorem code_apart {l : List Nat} {s t : Nat} (hn : s ≠ t) (hs : lenAt l s ≠ 0) (h : lenAt l s ≤ lenAt l t) : codeAt l t / 2 ^ (lenAt l t - lenAt l s) ≠ codeAt l s := by
  have ht : lenAt l t ≠ 0 := by omega
  have h1 := code_lt hs
  rcases Nat.lt_or_ge (lenAt l s) (lenAt l t) with h2 | h2
  · have h3 := fst_step (cnt l) (show 1 ≤ lenAt l s by omega) h2
    have h4 : fst (cnt l) (lenAt l t) ≤ codeAt l t := by rw [code_eq ht]; omega
    have h5 := (Nat.le_div_iff_mul_le (Nat.two_pow_pos (lenAt l t - lenAt l s))).2 (Nat.le_trans h3 h4)
    omega
  · have he : lenAt l s = lenAt l t := by omega
    rw [he, Nat.sub_self, Nat.pow_zero, Nat.div_one, code_eq hs, code_eq ht, he]
    have := rank_ne hn (lenAt_lt hs) (lenAt_lt ht) he
    omega
theorem pos_lt {l : List Nat} (hl : Low l) {s : Nat} (h : lenAt l s ≠ 0) : posAt l s < st (cnt l) 16 := by
  have h1 := rank_lt (lenAt_lt h)
  have h2 := st_step (cnt l) (show 1 ≤ lenAt l s by omega) (show lenAt l s < 16 by have := lenAt_low hl s; omega)
  unfold posAt
  omega
theorem pos_ne {l : List Nat} {s t : Nat} (h : s ≠ t) (hs : lenAt l s ≠ 0) (ht : lenAt l t ≠ 0) : posAt l s ≠ posAt l t := by
  have h1 := rank_lt (lenAt_lt hs)
  have h2 := rank_lt (lenAt_lt ht)
  unfold posAt
  rcases Nat.lt_trichotomy (lenAt l s) (lenAt l t) with h3 | h3 | h3
  · have := st_step (cnt l) (show 1 ≤ lenAt l s by omega) h3; omega
  · have := rank_ne h (lenAt_lt hs) (lenAt_lt ht) h3
    rw [h3]; omega
  · have := st_step (cnt l) (show 1 ≤ lenAt l t by omega) h3; omega
/-- Each place of a length has its sign. -/
theorem exists_rank (l : List Nat) (v i : Nat) (h : i < cnt l v) : ∃ s, s < l.length ∧ lenAt l s = v ∧ cnt (l.take s) v = i := by
  induction l generalizing i with
  | nil => simp [cnt] at h
  | cons x l ih =>
    rw [cnt_cons] at h
    by_cases hx : x = v
    · rcases i with _ | i
      · exact ⟨0, by simp, by simp [lenAt, hx], by simp [cnt]⟩
      · rw [if_pos hx] at h
        obtain ⟨s, h1, h2, h3⟩ := ih i (by omega)
        refine ⟨s + 1, by simpa using h1, by simpa [lenAt] using h2, ?_⟩
        rw [List.take_succ_cons, cnt_cons, if_pos hx, h3]; omega
    · rw [if_neg hx] at h
      obtain ⟨s, h1, h2, h3⟩ := ih i (by omega)
      refine ⟨s + 1, by simpa using h1, by simpa [lenAt] using h2, ?_⟩
      rw [List.take_succ_cons, cnt_cons, if_neg hx, h3]; omega

/-- Bits as a number, the highest one first. -/
def hiB (m : List UInt8) : Nat := numB m.reverse
theorem hiB_snoc (m : List UInt8) (b : UInt8) : hiB (m ++ [b]) = 2 * hiB m + b.toNat := by
  unfold hiB; rw [List.reverse_append]; simp [numB]; omega
theorem hiB_lt {m : List UInt8} (h : Bin m) : hiB m < 2 ^ m.length := by
  have := numB_lt (bin_rev h)
  rwa [List.length_reverse] at this
theorem hiB_take {m : List UInt8} (h : Bin m) {j k : Nat} (hj : j ≤ k) (hk : k ≤ m.length) : hiB (m.take j) = hiB (m.take k) / 2 ^ (k - j) := by
  unfold hiB
  have e : m.take k = m.take j ++ (m.take k).drop j := by
    conv => lhs; rw [← List.take_append_drop j (m.take k)]
    rw [List.take_take, Nat.min_eq_left hj]
  rw [e, List.reverse_append, numB_append]
  have hl : ((m.take k).drop j).length = k - j := by rw [List.length_drop, List.length_take]; omega
  have h1 := numB_lt (bin_rev ((h.take k).drop j))
  rw [List.length_reverse, hl] at h1
  rw [List.length_reverse, hl, Nat.add_mul_div_left _ _ (Nat.two_pow_pos _), Nat.div_eq_of_lt h1, Nat.zero_add]
theorem hiB_low (x n : Nat) (h : x < 2 ^ n) : hiB (lowB x n).reverse = x := by
  unfold hiB; rw [List.reverse_reverse, numB_lowB, Nat.mod_eq_of_lt h]
/-- The row that the program makes of the bits ahead. -/
theorem turn_hi {m : List UInt8} (h : Bin m) (q : Nat) (hq : q ≤ m.length) {j : Nat} (hj : j ≤ q) : turn 0 (numB m % 2 ^ q) j = hiB (m.take j) := by
  rw [turn_rev]
  unfold hiB
  have e : lowB (numB m % 2 ^ q) j = m.take j := by
    apply List.ext_getElem?
    intro i
    rcases Nat.lt_or_ge i j with h1 | h1
    · rw [lowB_at _ _ _ h1, List.getElem?_take, if_pos h1, List.getElem?_eq_getElem (by omega)]
      congr 1
      apply UInt8.toNat_inj.1
      rw [bitN_toNat]
      have h2 := numB_part h i 1 (by omega)
      rw [List.take_one, List.head?_drop, List.getElem?_eq_getElem (show i < m.length by omega)] at h2
      simp only [Option.toList, numB, Nat.mul_zero, Nat.add_zero, Nat.pow_one] at h2
      rw [h2]
      have h3 : q = i + (1 + (q - i - 1)) := by omega
      rw [h3, Nat.pow_add, Nat.mod_mul_right_div_self, Nat.pow_add, Nat.mod_mul_right_mod]
    · rw [List.getElem?_eq_none (by rw [lowB_length]; exact h1), List.getElem?_eq_none (by rw [List.length_take]; omega)]
  rw [e]

/-- The sign s has a code that the bits m begin with. -/
def hitP (l : List Nat) (m : List UInt8) (s : Nat) : Prop := lenAt l s ≠ 0 ∧ lenAt l s ≤ m.length ∧ hiB (m.take (lenAt l s)) = codeAt l s
instance (l : List Nat) (m : List UInt8) (s : Nat) : Decidable (hitP l m s) := by unfold hitP; infer_instance
/-- The bits begin with no code: from each length on they are beyond its codes. -/
def missTo (l : List Nat) (m : List UInt8) (n : Nat) : Prop := ∀ k, k < n → k = 0 ∨ fst (cnt l) k + cnt l k ≤ hiB (m.take k)
theorem hit_one {l : List Nat} {m : List UInt8} (hb : Bin m) {s t : Nat} (h : hitP l m s) (h' : hitP l m t) : s = t := by
  rcases Nat.lt_or_ge (lenAt l t) (lenAt l s) with h1 | h1
  · by_cases hn : s = t
    · exact hn
    · exfalso
      have := code_apart (Ne.symm hn) h'.1 (Nat.le_of_lt h1)
      rw [← h.2.2, ← h'.2.2, hiB_take hb (Nat.le_of_lt h1) h.2.1] at this
      exact this rfl
  · by_cases hn : s = t
    · exact hn
    · exfalso
      have := code_apart hn h.1 h1
      rw [← h.2.2, ← h'.2.2, hiB_take hb h1 h'.2.1] at this
      exact this rfl
/-- What a hit tells of the shorter lengths. -/
theorem hit_miss {l : List Nat} {m : List UInt8} (hb : Bin m) {s : Nat} (h : hitP l m s) : missTo l m (lenAt l s) := fun k hk => by
  by_cases h0 : k = 0
  · exact .inl h0
  · right
    have h1 := fst_step (cnt l) (show 1 ≤ k by omega) hk
    have h2 : fst (cnt l) (lenAt l s) ≤ hiB (m.take (lenAt l s)) := by rw [h.2.2, code_eq h.1]; omega
    rw [hiB_take hb (Nat.le_of_lt hk) h.2.1]
    exact (Nat.le_div_iff_mul_le (Nat.two_pow_pos _)).2 (Nat.le_trans h1 h2)
theorem miss_no {l : List Nat} {m : List UInt8} {n : Nat} (h : missTo l m n) {s : Nat} (hs : lenAt l s < n) : ¬ hitP l m s := fun hh => by
  rcases h _ hs with h1 | h1
  · exact hh.1 h1
  · have := code_lt hh.1
    rw [hh.2.2] at h1
    omega
theorem miss_low {l : List Nat} {m : List UInt8} (hb : Bin m) {n : Nat} (h : missTo l m n) (hn : n ≤ m.length) : fst (cnt l) n ≤ hiB (m.take n) := by
  rcases n with _ | _ | n
  · simp [fst]
  · simp [fst]
  · rw [fst_succ _ (by omega)]
    rcases h (n + 1) (by omega) with h1 | h1
    · omega
    · rw [hiB_take hb (show n + 1 ≤ n + 2 by omega) (by omega)] at h1
      have := (Nat.le_div_iff_mul_le (Nat.two_pow_pos (n + 2 - (n + 1)))).1 h1
      rw [show n + 2 - (n + 1) = 1 by omega] at this
      show 2 * _ ≤ hiB (List.take (n + 2) m)
      omega
/-- Where the bits are within a length's codes there is a sign. -/
theorem hit_at {l : List Nat} {m : List UInt8} (hb : Bin m) {n : Nat} (h0 : 1 ≤ n) (h : missTo l m n) (hn : n ≤ m.length) (hlt : hiB (m.take n) < fst (cnt l) n + cnt l n) :
    ∃ s, hitP l m s ∧ lenAt l s = n ∧ posAt l s = st (cnt l) n + (hiB (m.take n) - fst (cnt l) n) := by
  have hge := miss_low hb h hn
  obtain ⟨s, hs, h2, h3⟩ := exists_rank l n (hiB (m.take n) - fst (cnt l) n) (by omega)
  have hr : rank l s = hiB (m.take n) - fst (cnt l) n := by unfold rank; rw [h2, h3]
  refine ⟨s, ⟨by omega, by omega, ?_⟩, h2, ?_⟩
  · rw [code_eq (by omega), h2, hr]; omega
  · unfold posAt; rw [h2, hr]
/-- How many bits are looked at. -/
def q15 (m : List UInt8) : Nat := min 15 m.length
/-- The sign that bits begin with, as a search says it. -/
def tkO (l : List Nat) (m : List UInt8) : Option Nat := (List.range l.length).find? fun s => decide (hitP l m s)
/-- The bits are a beginning of a code, by the first row of bits that begins with no code. -/
def tailP (l : List Nat) (m : List UInt8) : Prop := hiB (m.take (q15 m)) * 2 ^ (16 - q15 m) < fst (cnt l) 16
instance (l : List Nat) (m : List UInt8) : Decidable (tailP l m) := by unfold tailP; infer_instance
def tkS (l : List Nat) (m : List UInt8) : Nat := (tkO l m).getD 0
def tkN (l : List Nat) (m : List UInt8) : Nat := match tkO l m with | some s => lenAt l s | none => 0
def tkE (l : List Nat) (m : List UInt8) : Nat := match tkO l m with | some _ => 0 | none => if tailP l m then 10 else 2
theorem tkO_hit {l : List Nat} {m : List UInt8} (hb : Bin m) {s : Nat} (h : hitP l m s) : tkO l m = some s := by
  unfold tkO
  cases hf : (List.range l.length).find? fun s => decide (hitP l m s) with
  | none =>
    have := List.find?_eq_none.1 hf s (List.mem_range.2 (lenAt_lt h.1))
    simp [h] at this
  | some t =>
    have ht : hitP l m t := by have := List.find?_some hf; simpa using this
    rw [hit_one hb ht h]
theorem tkO_miss {l : List Nat} (hl : Low l) {m : List UInt8} (h : missTo l m (q15 m + 1)) : tkO l m = none := by
  unfold tkO
  rw [List.find?_eq_none]
  intro s _
  simp only [decide_eq_true_eq]
  intro hh
  have h1 := lenAt_low hl s
  have h2 := hh.2.1
  exact miss_no h (by unfold q15; omega) hh
theorem tkO_none {l : List Nat} {m : List UInt8} (hb : Bin m) (h : tkO l m = none) : missTo l m (q15 m + 1) := by
  have key : ∀ n, n ≤ q15 m + 1 → missTo l m n := by
    intro n
    induction n with
    | zero => intro _ k hk; omega
    | succ n ih =>
      intro hn k hk
      have hi := ih (by omega)
      rcases Nat.lt_or_ge k n with h1 | h1
      · exact hi k h1
      · obtain rfl : k = n := by omega
        by_cases h0 : k = 0
        · exact .inl h0
        · right
          apply Nat.le_of_not_lt
          intro hlt
          obtain ⟨s, hs, _⟩ := hit_at hb (by omega) hi (by unfold q15 at hn; omega) hlt
          rw [tkO_hit hb hs] at h
          cases h
  exact key _ (Nat.le_refl _)
/-- Bits that begin no code and are the beginning of one. -/
theorem tail_iff {l : List Nat} (hl : Low l) {m : List UInt8} (h : missTo l m (q15 m + 1)) :
    tailP l m ↔ ∃ s, lenAt l s ≠ 0 ∧ m.length < lenAt l s ∧ codeAt l s / 2 ^ (lenAt l s - m.length) = hiB m := by
  unfold tailP
  by_cases h15 : 15 ≤ m.length
  · have hq : q15 m = 15 := by unfold q15; omega
    rw [hq] at h ⊢
    constructor
    · intro h1
      rcases h 15 (by omega) with h2 | h2
      · omega
      · rw [show (16 : Nat) = 15 + 1 from rfl, fst_succ _ (by omega)] at h1
        simp only [Nat.reduceSub, Nat.reduceAdd, Nat.pow_one] at h1
        omega
    · rintro ⟨s, _, h2, _⟩
      have := lenAt_low hl s
      omega
  · have hq : q15 m = m.length := by unfold q15; omega
    rw [hq] at h ⊢
    rw [List.take_length] at *
    generalize hn : m.length = n at *
    constructor
    · intro h1
      -- the least length whose codes go beyond these bits
      have key : ∀ d, n + d ≤ 15 → (∃ s, lenAt l s ≠ 0 ∧ n < lenAt l s ∧ codeAt l s / 2 ^ (lenAt l s - n) = hiB m) ∨ (n + d = 0 ∨ fst (cnt l) (n + d) + cnt l (n + d) ≤ hiB m * 2 ^ d) := by
        intro d
        induction d with
        | zero =>
          intro _
          right
          have := h n (by omega)
          rw [← hn, List.take_length, hn] at this
          simpa using this
        | succ d ih =>
          intro hd
          rcases ih (by omega) with h2 | h2
          · exact .inl h2
          · by_cases h3 : fst (cnt l) (n + (d + 1)) + cnt l (n + (d + 1)) ≤ hiB m * 2 ^ (d + 1)
            · exact .inr (.inr h3)
            · left
              have h4 : fst (cnt l) (n + (d + 1)) ≤ hiB m * 2 ^ (d + 1) := by
                rcases h2 with h2 | h2
                · have : n + (d + 1) = 1 := by omega
                  rw [this]; simp [fst]
                · by_cases h6 : n + d = 0
                  · have : n + (d + 1) = 1 := by omega
                    rw [this]; simp [fst]
                  · rw [show n + (d + 1) = (n + d) + 1 by omega, fst_succ _ (by omega), Nat.pow_succ, ← Nat.mul_assoc]
                    omega
              obtain ⟨s, hs, h5, h6⟩ := exists_rank l (n + (d + 1)) (hiB m * 2 ^ (d + 1) - fst (cnt l) (n + (d + 1))) (by omega)
              refine ⟨s, by omega, by omega, ?_⟩
              rw [code_eq (by omega)]
              unfold rank
              rw [h5, h6, show n + (d + 1) - n = d + 1 by omega, show fst (cnt l) (n + (d + 1)) + (hiB m * 2 ^ (d + 1) - fst (cnt l) (n + (d + 1))) = hiB m * 2 ^ (d + 1) by omega]
              exact Nat.mul_div_cancel _ (Nat.two_pow_pos _)
      rcases key (15 - n) (by omega) with h2 | h2
      · exact h2
      · exfalso
        rw [show n + (15 - n) = 15 by omega] at h2
        rcases h2 with h2 | h2
        · omega
        · rw [show (16 : Nat) = 15 + 1 from rfl, fst_succ _ (by omega), show 15 + 1 - n = (15 - n) + 1 by omega, Nat.pow_succ, ← Nat.mul_assoc] at h1
          omega
    · rintro ⟨s, h0, h2, h3⟩
      have h4 := code_lt h0
      have h5 := lenAt_low hl s
      have h6 := fst_step (cnt l) (show 1 ≤ lenAt l s by omega) (show lenAt l s < 16 by omega)
      have h7 : hiB m * 2 ^ (lenAt l s - n) ≤ codeAt l s := by rw [← h3]; exact Nat.div_mul_le_self _ _
      have h8 : 2 ^ (16 - n) = 2 ^ (lenAt l s - n) * 2 ^ (16 - lenAt l s) := by rw [← Nat.pow_add]; congr 1; omega
      rw [h8, ← Nat.mul_assoc]
      have h9 := Nat.mul_lt_mul_of_lt_of_le (Nat.lt_of_le_of_lt h7 h4) (Nat.le_refl (2 ^ (16 - lenAt l s))) (Nat.two_pow_pos _)
      omega
end Go.Proofs.YtpnnlhegncbfaaaDoor
namespace Go.Proofs.YtpnnlhegncbfaaaDoor
set_option maxRecDepth 20000
open Go.RowKit


theorem Row.inj {w : World} {g : Nat} {cs cs' : Array Value} {t t' : TypeId} (h : Row w g cs t) (h' : Row w g cs' t') : cs = cs' ∧ t = t' := by
  unfold Row at h h'; rw [h] at h'; injection h' with h'; injection h' with h1 h2; exact ⟨h1, h2⟩

theorem grown_setRow (w : World) (g : Nat) (cs : Array Value) : w.grownBy (w.setRow g cs) (some g) :=
  ⟨rfl, rfl, rfl, by simp, fun k _ hk => setRow_other w g k cs (fun e => hk (by rw [e]))⟩

section
variable {P : Program} {ops : Array Oper} {rest : List Oper} {o : Oper} {a : Act} {Q : Exit → Act → World → Prop}

theorem box_row {w : World} (hgd : o.guard = none) (ty : TypeId) (x : Operand) (ho : o.op = .box ty x) (cs : Array Value) (hx : a.eval x = .agg cs)
    (h : ∀ w', Row w' w.heap.size cs ty → w.grownBy w' none → w'.heap.size = w.heap.size + 1 → wpList P ops Q rest (a.put o.dst (.pointer (some ⟨w.heap.size, 0, none⟩))) w') : wpList P ops Q (o :: rest) a w :=
  wpList_plain hgd fun K hK => by
    unfold Oper.wp execOp
    simp only [ho, hx, Instr.box, newVar, Value.cells]
    exact hK _ _ (h (w.alloc (.cells cs ty)) (heap_alloc_new w _) (World.grownBy_alloc w _ _) (by simp))

theorem alloc_row {w : World} (hgd : o.guard = none) (ty : TypeId) (ho : o.op = .alloc ty) (cs : Array Value) (n : Nat) (hi : (P.info? ty).map (fun i => (i.zero, i.size)) = some (some (.agg cs), n))
    (h : ∀ w', Row w' w.heap.size cs ty → w.grownBy w' none → w'.heap.size = w.heap.size + 1 → wpList P ops Q rest (a.put o.dst (.pointer (some ⟨w.heap.size, 0, none⟩))) w') : wpList P ops Q (o :: rest) a w :=
  wpList_plain hgd fun K hK => by
    have hz := (zero_of_info hi).1
    unfold Oper.wp execOp
    simp only [ho, Instr.alloc, Sem.run_bind, hz, Result.andThen_ok, newVar, Value.cells]
    exact hK _ _ (h (w.alloc (.cells cs ty)) (heap_alloc_new w _) (World.grownBy_alloc w _ _) (by simp))

theorem load_row {w : World} (hgd : o.guard = none) (ty : TypeId) (x : Operand) (ho : o.op = .load ty x) (g : Nat) (hx : a.eval x = .pointer (some ⟨g, 0, none⟩)) (t : TypeId) (cs : Array Value) (d : TypeDesc)
    (hg : Row w g cs t) (hu : P.underlying ty = some d) (hd : (match d with | .struct _ | .array _ _ => true | _ => false) = true) (n : Nat) (hi : (P.info? ty).map (·.size) = some n) (hn : cs.size = n)
    (h : RowKit.Hid True → wpList P ops Q rest (a.put o.dst (.agg cs)) w) : wpList P ops Q (o :: rest) a w :=
  wpList_load_row hgd ty x ho g hx t cs (0, 0) d hg hu hd (by rw [hi, hn]) (h (Lib.hid trivial))

theorem store_row {w : World} (hgd : o.guard = none) (ty : TypeId) (x y : Operand) (ho : o.op = .store ty x y) (g : Nat) (cells : Array Value) (hx : a.eval x = .pointer (some ⟨g, 0, none⟩)) (hy : a.eval y = .agg cells)
    (t : TypeId) (old : Array Value) (hg : Row w g old t) (n : Nat) (hi : (P.info? ty).map (·.size) = some n) (hn : cells.size = n) (hold : old.size = n) (h1 : cells.all (·.oneCell') = true)
    (h : ∀ w', Row w' g cells t → w.grownBy w' (some g) → w'.heap.size = w.heap.size → wpList P ops Q rest (a.put o.dst undef) w') : wpList P ops Q (o :: rest) a w :=
  wpList_store_row hgd ty x y ho g cells hx hy t old hg (by rw [hi, hn]) (by rw [hold, hn]) h1
    (h _ (setRow_heap w g old cells t _ hg) (grown_setRow w g cells) (by simp))

/-- The walk stands at a load, a store, .. of this type: seen without unfolding anything. -/
theorem at_load (ty : TypeId) {w : World} {dst : Option Tmp} {x : Operand} {t : TypeId} {pos : String} {aft : Array Edge} {g : Option (Nat × Bool)} (h : wpList P ops Q (⟨dst, .load ty x, t, pos, aft, g⟩ :: rest) a w) : wpList P ops Q (⟨dst, .load ty x, t, pos, aft, g⟩ :: rest) a w := h
theorem at_store (ty : TypeId) {w : World} {dst : Option Tmp} {x y : Operand} {t : TypeId} {pos : String} {aft : Array Edge} {g : Option (Nat × Bool)} (h : wpList P ops Q (⟨dst, .store ty x y, t, pos, aft, g⟩ :: rest) a w) : wpList P ops Q (⟨dst, .store ty x y, t, pos, aft, g⟩ :: rest) a w := h
theorem at_alloc (ty : TypeId) {w : World} {dst : Option Tmp} {t : TypeId} {pos : String} {aft : Array Edge} {g : Option (Nat × Bool)} (h : wpList P ops Q (⟨dst, .alloc ty, t, pos, aft, g⟩ :: rest) a w) : wpList P ops Q (⟨dst, .alloc ty, t, pos, aft, g⟩ :: rest) a w := h
theorem at_box (ty : TypeId) {w : World} {dst : Option Tmp} {x : Operand} {t : TypeId} {pos : String} {aft : Array Edge} {g : Option (Nat × Bool)} (h : wpList P ops Q (⟨dst, .box ty x, t, pos, aft, g⟩ :: rest) a w) : wpList P ops Q (⟨dst, .box ty x, t, pos, aft, g⟩ :: rest) a w := h

/-- The walk is to stop here. -/
theorem halt_store (ty : TypeId) {w : World} {dst : Option Tmp} {x y : Operand} {t : TypeId} {pos : String} {aft : Array Edge} {g : Option (Nat × Bool)} (h : RowKit.Hid (wpList P ops Q (⟨dst, .store ty x y, t, pos, aft, g⟩ :: rest) a w)) : wpList P ops Q (⟨dst, .store ty x y, t, pos, aft, g⟩ :: rest) a w := h
theorem halt_load (ty : TypeId) {w : World} {dst : Option Tmp} {x : Operand} {t : TypeId} {pos : String} {aft : Array Edge} {g : Option (Nat × Bool)} (h : RowKit.Hid (wpList P ops Q (⟨dst, .load ty x, t, pos, aft, g⟩ :: rest) a w)) : wpList P ops Q (⟨dst, .load ty x, t, pos, aft, g⟩ :: rest) a w := h
theorem halt_alloc (ty : TypeId) {w : World} {dst : Option Tmp} {t : TypeId} {pos : String} {aft : Array Edge} {g : Option (Nat × Bool)} (h : RowKit.Hid (wpList P ops Q (⟨dst, .alloc ty, t, pos, aft, g⟩ :: rest) a w)) : wpList P ops Q (⟨dst, .alloc ty, t, pos, aft, g⟩ :: rest) a w := h

/-- A part of a row, as an array of its own. -/
theorem run_load_seg (w : World) (g off : Nat) (t ty : TypeId) (cs : Array Value) (part : List Value) (d : TypeDesc) (hg : Row w g cs t)
    (hu : P.underlying ty = some d) (hd : (match d with | .struct _ | .array _ _ => true | _ => false) = true) (hi : (P.info? ty).map (·.size) = some part.length)
    (hp : ∀ j v, part[j]? = some v → cs[off + j]? = some v) : (loadVar ty ⟨g, off, none⟩).run P w = .ok (.agg part.toArray) w := by
  have hl : (loadCells ⟨g, off, none⟩ part.length).run P w = .ok part.toArray w :=
    run_loadCells_list (P := P) w ⟨g, off, none⟩ part (fun j v hv => by
      have hadd : (⟨g, off, none⟩ : Addr).add j = ⟨g, off + j, none⟩ := by unfold Addr.add; split <;> simp_all
      rw [hadd, hg.cell]
      exact hp j v hv)
  cases hq : P.info? ty with
  | none => simp [hq] at hi
  | some i =>
    have hs : i.size = part.length := by simpa [hq] using hi
    have hagg : (isAgg ty).run P w = .ok true w := by
      unfold isAgg
      rw [Sem.run_bind, run_underlying hu w]
      cases d <;> simp_all
    simp [loadVar, Sem.run_bind, hagg, sizeOf, typeInfo, hq, hs, hl]

theorem load_seg {w : World} (hgd : o.guard = none) (ty : TypeId) (x : Operand) (ho : o.op = .load ty x) (g off : Nat) (hx : a.eval x = .pointer (some ⟨g, off, none⟩)) (t : TypeId) (cs : Array Value) (part : List Value) (d : TypeDesc)
    (hg : Row w g cs t) (hu : P.underlying ty = some d) (hd : (match d with | .struct _ | .array _ _ => true | _ => false) = true) (hi : (P.info? ty).map (·.size) = some part.length) (hp : ∀ j v, part[j]? = some v → cs[off + j]? = some v)
    (h : RowKit.Hid True → wpList P ops Q rest (a.put o.dst (.agg part.toArray)) w) : wpList P ops Q (o :: rest) a w :=
  wpList_plain hgd fun K hK => by
    unfold Oper.wp execOp
    simp only [ho, hx, Instr.loadAt, Instr.sureAddr, Sem.run_bind, Sem.run_pure, Result.andThen_ok, run_load_seg w g off t ty cs part d hg hu hd hi hp]
    exact hK _ _ (h (Lib.hid trivial))
end

theorem run_store_seg {P : Program} (w : World) (g off : Nat) (t ty : TypeId) (cs part : Array Value) (hg : Row w g cs t) (hi : (P.info? ty).map (·.size) = some part.size) (hl : off + part.size ≤ cs.size) (h1 : part.all (·.oneCell') = true) :
    (storeVar ty ⟨g, off, none⟩ (.agg part)).run P w = .ok () (w.setRow g (cs.toList.take off ++ part.toList ++ cs.toList.drop (off + part.size)).toArray) := by
  have := run_storeCells_at (P := P) g off t part.toList 0 cs w hg (by simp; omega) (fun v hv => (Array.all_eq_true_iff_forall_mem.1 h1) v (by simpa using hv))
  cases hq : P.info? ty with
  | none => simp [hq] at hi
  | some i =>
    have hs : part.size = i.size := by simp [hq] at hi; omega
    simp only [Nat.add_zero, Array.length_toList] at this
    simp [storeVar, sizeOf, typeInfo, hq, Value.cells, hs] at this ⊢
    exact this
section
variable {P : Program} {ops : Array Oper} {rest : List Oper} {o : Oper} {a : Act} {Q : Exit → Act → World → Prop}
theorem run_load_cells (w : World) (g off : Nat) (ty : TypeId) (part : List Value) (d : TypeDesc)
    (hu : P.underlying ty = some d) (hd : (match d with | .struct _ | .array _ _ => true | _ => false) = true) (hi : (P.info? ty).map (·.size) = some part.length)
    (hp : ∀ j v, part[j]? = some v → w.cell? ⟨g, off + j, none⟩ = some v) : (loadVar ty ⟨g, off, none⟩).run P w = .ok (.agg part.toArray) w := by
  have hl : (loadCells ⟨g, off, none⟩ part.length).run P w = .ok part.toArray w :=
    run_loadCells_list (P := P) w ⟨g, off, none⟩ part (fun j v hv => by
      have hadd : (⟨g, off, none⟩ : Addr).add j = ⟨g, off + j, none⟩ := by unfold Addr.add; split <;> simp_all
      rw [hadd]
      exact hp j v hv)
  cases hq : P.info? ty with
  | none => simp [hq] at hi
  | some i =>
    have hs : i.size = part.length := by simpa [hq] using hi
    have hagg : (isAgg ty).run P w = .ok true w := by
      unfold isAgg
      rw [Sem.run_bind, run_underlying hu w]
      cases d <;> simp_all
    simp [loadVar, Sem.run_bind, hagg, sizeOf, typeInfo, hq, hs, hl]
theorem load_cells {w : World} (hgd : o.guard = none) (ty : TypeId) (x : Operand) (ho : o.op = .load ty x) (g off : Nat) (hx : a.eval x = .pointer (some ⟨g, off, none⟩)) (part : List Value) (d : TypeDesc)
    (hu : P.underlying ty = some d) (hd : (match d with | .struct _ | .array _ _ => true | _ => false) = true) (hi : (P.info? ty).map (·.size) = some part.length) (hp : ∀ j v, part[j]? = some v → w.cell? ⟨g, off + j, none⟩ = some v)
    (h : RowKit.Hid True → wpList P ops Q rest (a.put o.dst (.agg part.toArray)) w) : wpList P ops Q (o :: rest) a w :=
  wpList_plain hgd fun K hK => by
    unfold Oper.wp execOp
    simp only [ho, hx, Instr.loadAt, Instr.sureAddr, Sem.run_bind, Sem.run_pure, Result.andThen_ok, run_load_cells w g off ty part d hu hd hi hp]
    exact hK _ _ (h (Lib.hid trivial))
theorem build_row {w : World} (hgd : o.guard = none) (t : TypeId) (parts : Array (Nat × Operand)) (ho : o.op = .build t parts) (cells : Array Value) (hb : P.built t ((parts.map fun (i, x) => (i, a.eval x)).toList) = some cells)
    (h : RowKit.Hid True → wpList P ops Q rest (a.put o.dst (.agg cells)) w) : wpList P ops Q (o :: rest) a w :=
  wpList_plain hgd fun K hK => by
    unfold Oper.wp execOp
    simp only [ho, Sem.run_bind, run_build w t _ cells hb, Result.andThen_ok]
    exact hK _ _ (h (Lib.hid trivial))
end

theorem results_two {P : Program} {fn : Func} {p q : Tmp} {ty : TypeId} (h : fn.results = #[.cell p ty, .tmp q]) (tmps : Array Value) (w : World) (g : Nat) (t : TypeId) (cs : Array Value) (d : TypeDesc) (v : Value)
    (hp : tmps.getD p undef = .pointer (some ⟨g, 0, none⟩)) (hq : tmps.getD q undef = v) (hg : Row w g cs t)
    (hu : P.underlying ty = some d) (hd : (match d with | .struct _ | .array _ _ => true | _ => false) = true) (hi : (P.info? ty).map (·.size) = some cs.size) :
    (results fn tmps).run P w = .ok (.tuple #[.agg cs, v]) w := by
  have hp' : tmps[p]?.getD undef = .pointer (some ⟨g, 0, none⟩) := by simpa using hp
  have hq' : tmps[q]?.getD undef = v := by simpa using hq
  simp [results, h, hp', hq', asAddr, run_loadVar_row w g t ty cs (0, 0) d hg hu hd hi]

end Go.Proofs.YtpnnlhegncbfaaaDoor
