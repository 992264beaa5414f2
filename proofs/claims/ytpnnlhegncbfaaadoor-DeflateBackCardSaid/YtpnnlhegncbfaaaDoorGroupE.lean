
/- Contracts of alive, document and crossdocknum's Bytes. -/

/- Which tokens are a text's, as plain functions; contracts of isFormed and refusal. -/

/- Contract of deflate's Untokens. -/
import Derived.Test.YtpnnlhegncbfaaaDoorGroupD
import Derived.Lib.SlBytesConst
namespace Go.Proofs.YtpnnlhegncbfaaaDoor
set_option maxRecDepth 20000
open Go.RowKit

theorem known : toksT [97, 97, 97, 97] = [⟨97, 0, 0⟩, ⟨0, 3, 1⟩] := by decide +kernel
/-- Bytes that were just laid in a block of their own read as their list. -/
theorem Rd.laid (w : World) (cs : Array Value) (fr : Nat × Nat) (l : List UInt8) (n : Nat) (h : cs.toList = us l) (hn : l.length = n) :
    Rd (w.alloc (.cells cs 5 fr)) (w.alloc (.cells cs 5 fr)).heap.size (some ⟨w.heap.size, 0, none⟩) n (us l) := by
  refine ⟨by rw [us_length, hn], fun _ => ⟨w.heap.size, 0, rfl, by simp, fun j u hu => ?_⟩⟩
  have hc : ∀ j u, cs.toList[j]? = some u → (w.alloc (.cells cs 5 fr)).cell? ((⟨w.heap.size, 0, none⟩ : Addr).add j) = some u := World.news_of_block (fr := fr) (by exact heap_alloc_new w _)
  have := hc j u (by rw [h]; exact hu)
  rw [Go.WideShapes.add_plain] at this
  exact this
theorem eq_tok (w : World) : (binOp .eql 44 (.agg #[.int .u8 97, .int .i64 0, .int .i64 0]) (.agg #[.int .u8 97, .int .i64 0, .int .i64 0])).run Tryd.prog w = .ok (.bool true) w := by kernel_rfl
theorem eq_tok2 (w : World) : (binOp .eql 44 (.agg #[.int .u8 0, .int .i64 3, .int .i64 1]) (.agg #[.int .u8 0, .int .i64 3, .int .i64 1])).run Tryd.prog w = .ok (.bool true) w := by kernel_rfl
set_option maxHeartbeats 1000000 in
set_option maxRecDepth 10000 in
theorem alive_true (w : World) : Calls Tryd.prog 5 #[] w fun e w' => e = .returned (.bool true) ∧ Below w.heap.size w w' := by
  have kc := fun (w : World) (C : Array Value) (n c : Nat) => Lib.run_convert_bytes_const (P := Tryd.prog) w 22 5 C n c Tryd.underlying22 Tryd.underlying5
  go_enter Tryd.func5, Tryd.ntmps5
  go_wp2_with fail
  have hb : Below w.heap.size w (w.alloc (.cells #[.int .u8 97, .int .u8 97, .int .u8 97, .int .u8 97] 5 (4, 5))) := (Below.refl _ _).alloc (Nat.le_refl _) _
  have ho := Rd.laid w #[.int .u8 97, .int .u8 97, .int .u8 97, .int .u8 97] (4, 5) [97, 97, 97, 97] 4 rfl rfl
  clear kc
  refine (tokens_any _ 4 4 _ _ ho (by decide)).mono ?_
  generalize w.alloc (.cells #[.int .u8 97, .int .u8 97, .int .u8 97, .int .u8 97] 5 (4, 5)) = w1 at hb ho ⊢
  rintro e w2 ⟨v, rfl, hown, hb2⟩
  rw [known] at hown
  have HB := Lib.hid (hb.trans (hb2.mono hb.size))
  obtain ⟨A, c, rfl, _, hrd⟩ := hown.rd
  obtain ⟨g, o, a0, rfl, hg, ha0, c0, c1, c2⟩ := hrd.cells (k := 0) (by decide)
  obtain ⟨g', o', a1, hgo, _, ha1, k0, k1, k2⟩ := hrd.cells (k := 1) (by decide)
  injection hgo with hgo
  injection hgo with e1 e2
  subst e1 e2
  injection ha0 with ha0
  injection ha1 with ha1
  subst ha0 ha1
  have q1 := eq_tok w2
  have q2 := eq_tok2 w2
  have x0 : w2.cell? ⟨g, o, none⟩ = some (.int .u8 97) := c0
  have x1 : w2.cell? ⟨g, o + 1, none⟩ = some (.int .i64 0) := by simpa using c1
  have x2 : w2.cell? ⟨g, o + 2, none⟩ = some (.int .i64 0) := by simpa using c2
  have x3 : w2.cell? ⟨g, o + 3, none⟩ = some (.int .u8 0) := by simpa using k0
  have x4 : w2.cell? ⟨g, o + 4, none⟩ = some (.int .i64 3) := by simpa using k1
  have x5 : w2.cell? ⟨g, o + 5, none⟩ = some (.int .i64 1) := by simpa using k2
  clear hb ho hb2 hown hrd hg c0 c1 c2 k0 k1 k2
  go_wp2_with fail
  go_ret
  exact ⟨rfl, HB.out⟩
end Go.Proofs.YtpnnlhegncbfaaaDoor
namespace Go.Proofs.YtpnnlhegncbfaaaDoor
set_option maxRecDepth 20000
open Go.RowKit

def formed (t : Tk) : Bool := if t.l = 0 then decide (t.d = 0) else decide (3 ≤ t.l ∧ t.l ≤ 258 ∧ t.d ≠ 0 ∧ t.b = 0)
/-- Why a token can't stand behind n bytes: an error's number. -/
def refuse (t : Tk) (n : Nat) : Nat :=
  if formed t = false then 2 else if 0 < t.l ∧ (t.d < 1 ∨ 32768 < t.d ∨ (n : Int) < t.d) then 1 else if 1048576 < (n : Int) + szI t.l then 3 else 0
/-- k bytes from so far back. -/
def copyN (d : Nat) : Nat → List UInt8 → List UInt8
  | 0, o => o
  | k + 1, o => copyN d k (o ++ [o.getD (o.length - d) 0])
def putT (t : Tk) (o : List UInt8) : List UInt8 := if t.l = 0 then o ++ [t.b] else copyN t.d.toNat t.l.toNat o
def untokF : List Tk → List UInt8 → Except Nat (List UInt8)
  | [], o => .ok o
  | t :: r, o => if refuse t o.length = 0 then untokF r (putT t o) else .error (refuse t o.length)
theorem copyN_length (d : Nat) : ∀ k o, (copyN d k o).length = o.length + k
  | 0, o => by simp [copyN]
  | k + 1, o => by rw [copyN, copyN_length d k]; simp; omega
theorem b_zero (b : UInt8) : (((b.toNat : Int) == 0) = decide (b = 0)) := by
  by_cases h : b = 0
  · subst h; rfl
  · rw [decide_eq_false h, beq_eq_false_iff_ne]
    intro e
    exact h (UInt8.toNat_inj.1 (by rw [show (0 : UInt8).toNat = 0 from rfl]; omega))
set_option maxHeartbeats 1000000 in
set_option maxRecDepth 10000 in
theorem isFormed_any (t : Tk) (w : World) : Calls Tryd.prog 33 #[tokV t] w fun e w' => e = .returned (.bool (formed t)) ∧ Below w.heap.size w w' := by
  have hb := b_zero t.b
  have HBL : ∀ cs, Below w.heap.size w (w.alloc (.cells cs 44)) := fun cs => (Below.refl _ _).alloc (Nat.le_refl _) _
  go_enter Tryd.func33, Tryd.ntmps33
  by_cases h0 : t.l = 0
  · have d0 : (t.l == 0) = true := by rw [h0]; rfl
    go_wp2_with fail
    go_ret
    refine ⟨?_, HBL _⟩
    unfold formed
    rw [if_pos h0, ← show (t.d == 0) = decide (t.d = 0) by rw [Bool.eq_iff_iff]; simp]
    rfl
  · have d0 : (t.l == 0) = false := by rw [beq_eq_false_iff_ne]; exact h0
    by_cases h1 : 3 ≤ t.l
    · have d1 : decide (3 ≤ t.l) = true := decide_eq_true h1
      by_cases h2 : t.l ≤ 258
      · have d2 : decide (t.l ≤ 258) = true := decide_eq_true h2
        by_cases h3 : t.d = 0
        · have d3 : (t.d != 0) = false := by rw [h3]; rfl
          go_wp2_with fail
          go_ret
          exact ⟨by unfold formed; rw [if_neg h0, decide_eq_false (by simp [h3])]; rfl, HBL _⟩
        · have d3 : (t.d != 0) = true := by rw [bne_iff_ne]; exact h3
          have hf : formed t = decide (t.b = 0) := by unfold formed; rw [if_neg h0]; simp [h1, h2, h3]
          go_wp2_with fail
          go_ret
          refine ⟨?_, HBL _⟩
          rw [hf, ← hb]; rfl
      · have d2 : decide (t.l ≤ 258) = false := decide_eq_false h2
        go_wp2_with fail
        go_ret
        exact ⟨by unfold formed; rw [if_neg h0, decide_eq_false (by omega)]; rfl, HBL _⟩
    · have d1 : decide (3 ≤ t.l) = false := decide_eq_false h1
      go_wp2_with fail
      go_ret
      exact ⟨by unfold formed; rw [if_neg h0, decide_eq_false (by omega)]; rfl, HBL _⟩

theorem isForm_false {t : Tk} (h : formed t = true) : t.l = 0 ∨ (3 ≤ t.l ∧ t.l ≤ 258) := by
  unfold formed at h
  split at h
  · exact .inl (by assumption)
  · have := of_decide_eq_true h
    exact .inr ⟨this.1, this.2.1⟩
set_option maxHeartbeats 2000000 in
set_option maxRecDepth 10000 in
theorem refusal_any (t : Tk) (n : Nat) (hn : n ≤ 1048576) (w : World) : Calls Tryd.prog 16 #[tokV t, .int .i64 (n : Int)] w fun e w' => e = .returned (errV (refuse t n)) ∧ Below w.heap.size w w' := by
  obtain ⟨R, HR⟩ : ∃ R, RowKit.Hid (refuse t n = R) := ⟨_, Lib.hid rfl⟩
  rw [HR.out]
  have HBL : ∀ cs, Below w.heap.size w (w.alloc (.cells cs 44)) := fun cs => (Below.refl _ _).alloc (Nat.le_refl _) _
  have hsz : ∀ cs : Array Value, (w.alloc (.cells cs 44)).heap.size = w.heap.size + 1 := fun cs => by simp
  go_enter Tryd.func16, Tryd.ntmps16
  go_wp2_with fail
  refine (isFormed_any t _).mono ?_
  rintro e w1 ⟨rfl, hb1⟩
  have hrow : Row w1 w.heap.size #[U8 t.b, .int .i64 t.l, .int .i64 t.d] 44 := Row.below (heap_alloc_new w (.cells #[U8 t.b, .int .i64 t.l, .int .i64 t.d] 44)) hb1 (by simp)
  have HB1 := Lib.hid ((HBL _).trans (hb1.mono (by simp)))
  have c0 : w1.cell? ⟨w.heap.size, 0, none⟩ = some (.int .u8 (t.b.toNat : Int)) := hrow.cell 0
  have c1 : w1.cell? ⟨w.heap.size, 1, none⟩ = some (.int .i64 t.l) := hrow.cell 1
  have c2 : w1.cell? ⟨w.heap.size, 2, none⟩ = some (.int .i64 t.d) := hrow.cell 2
  clear hb1 hrow HBL hsz
  cases hf : formed t with
  | false =>
    have HR2 : RowKit.Hid (R = 2) := Lib.hid (by rw [← HR.out]; unfold refuse; rw [if_pos hf])
    go_wp2_with fail
    go_ret
    exact ⟨by rw [HR2.out]; rfl, HB1.out⟩
  | true =>
    have hfl := isForm_false hf
    by_cases hr : 0 < t.l ∧ (t.d < 1 ∨ 32768 < t.d ∨ (n : Int) < t.d)
    · have HR2 : RowKit.Hid (R = 1) := Lib.hid (by rw [← HR.out]; unfold refuse; rw [if_neg (by rw [hf]; decide), if_pos hr])
      have d1 : decide (0 < t.l) = true := decide_eq_true hr.1
      by_cases h1 : t.d < 1
      · have d2 : decide (t.d < 1) = true := decide_eq_true h1
        go_wp2_with fail
        go_ret
        exact ⟨by rw [HR2.out]; rfl, HB1.out⟩
      · have d2 : decide (t.d < 1) = false := decide_eq_false h1
        by_cases h2 : (n : Int) < 32768
        · have d3 : decide ((n : Int) < t.d) = true := decide_eq_true (by omega)
          clear hr hfl h1 hf
          go_wp2_with fail
          go_ret
          exact ⟨by rw [HR2.out]; rfl, HB1.out⟩
        · have d3 : decide (32768 < t.d) = true := decide_eq_true (by omega)
          clear hr hfl h1 hf
          go_wp2_with fail
          go_ret
          exact ⟨by rw [HR2.out]; rfl, HB1.out⟩
    · have hR0 : refuse t n = if 1048576 < (n : Int) + szI t.l then 3 else 0 := by unfold refuse; rw [if_neg (by rw [hf]; decide), if_neg hr]
      have HZA := Lib.hid (fun w => size_any t w)
      obtain ⟨z, hz⟩ : ∃ z, szI t.l = z := ⟨_, rfl⟩
      have hz2 : 1 ≤ z ∧ z ≤ 258 := by rw [← hz]; unfold szI; split <;> omega
      rw [hz] at HZA hR0
      rw [hR0] at HR
      clear hR0 hz hf
      by_cases h0 : 0 < t.l
      · have d1 : decide (0 < t.l) = true := decide_eq_true h0
        have d2 : decide (t.d < 1) = false := decide_eq_false (by omega)
        have d3 : decide (32768 < t.d) = false := decide_eq_false (by omega)
        have d4 : decide ((n : Int) < t.d) = false := decide_eq_false (by omega)
        by_cases h2 : (n : Int) < 32768
        · by_cases h4 : 1048576 < (n : Int) + z
          · have HR2 : RowKit.Hid (R = 3) := Lib.hid (by rw [← HR.out, if_pos h4])
            have d5 : decide (1048576 - (n : Int) < z) = true := decide_eq_true (by omega)
            clear hr HR hfl hz2
            go_wp2_with fail
            all_goals
              refine (HZA.out w1).mono ?_
              rintro e w5 ⟨rfl, hb5⟩
              have HB5 := Lib.hid (HB1.out.trans (hb5.mono HB1.out.size))
              clear hb5
              go_wp2_with fail
              go_ret
              exact ⟨by rw [HR2.out]; rfl, HB5.out⟩
          · have HR2 : RowKit.Hid (R = 0) := Lib.hid (by rw [← HR.out, if_neg h4])
            have d5 : decide (1048576 - (n : Int) < z) = false := decide_eq_false (by omega)
            clear hr HR hfl hz2
            go_wp2_with fail
            all_goals
              refine (HZA.out w1).mono ?_
              rintro e w5 ⟨rfl, hb5⟩
              have HB5 := Lib.hid (HB1.out.trans (hb5.mono HB1.out.size))
              clear hb5
              go_wp2_with fail
              go_ret
              exact ⟨by rw [HR2.out]; rfl, HB5.out⟩
        · by_cases h4 : 1048576 < (n : Int) + z
          · have HR2 : RowKit.Hid (R = 3) := Lib.hid (by rw [← HR.out, if_pos h4])
            have d5 : decide (1048576 - (n : Int) < z) = true := decide_eq_true (by omega)
            clear hr HR hfl hz2
            go_wp2_with fail
            all_goals
              refine (HZA.out w1).mono ?_
              rintro e w5 ⟨rfl, hb5⟩
              have HB5 := Lib.hid (HB1.out.trans (hb5.mono HB1.out.size))
              clear hb5
              go_wp2_with fail
              go_ret
              exact ⟨by rw [HR2.out]; rfl, HB5.out⟩
          · have HR2 : RowKit.Hid (R = 0) := Lib.hid (by rw [← HR.out, if_neg h4])
            have d5 : decide (1048576 - (n : Int) < z) = false := decide_eq_false (by omega)
            clear hr HR hfl hz2
            go_wp2_with fail
            all_goals
              refine (HZA.out w1).mono ?_
              rintro e w5 ⟨rfl, hb5⟩
              have HB5 := Lib.hid (HB1.out.trans (hb5.mono HB1.out.size))
              clear hb5
              go_wp2_with fail
              go_ret
              exact ⟨by rw [HR2.out]; rfl, HB5.out⟩
      · have d1 : decide (0 < t.l) = false := decide_eq_false h0
        by_cases h4 : 1048576 < (n : Int) + z
        · have HR2 : RowKit.Hid (R = 3) := Lib.hid (by rw [← HR.out, if_pos h4])
          have d5 : decide (1048576 - (n : Int) < z) = true := decide_eq_true (by omega)
          clear hr HR hfl hz2
          go_wp2_with fail
          all_goals
            refine (HZA.out w1).mono ?_
            rintro e w5 ⟨rfl, hb5⟩
            have HB5 := Lib.hid (HB1.out.trans (hb5.mono HB1.out.size))
            clear hb5
            go_wp2_with fail
            go_ret
            exact ⟨by rw [HR2.out]; rfl, HB5.out⟩
        · have HR2 : RowKit.Hid (R = 0) := Lib.hid (by rw [← HR.out, if_neg h4])
          have d5 : decide (1048576 - (n : Int) < z) = false := decide_eq_false (by omega)
          clear hr HR hfl hz2
          go_wp2_with fail
          all_goals
            refine (HZA.out w1).mono ?_
            rintro e w5 ⟨rfl, hb5⟩
            have HB5 := Lib.hid (HB1.out.trans (hb5.mono HB1.out.size))
            clear hb5
            go_wp2_with fail
            go_ret
            exact ⟨by rw [HR2.out]; rfl, HB5.out⟩
end Go.Proofs.YtpnnlhegncbfaaaDoor
namespace Go.Proofs.YtpnnlhegncbfaaaDoor
set_option maxRecDepth 20000
open Go.RowKit

theorem untokF_append : ∀ (a b : List Tk) (o o' : List UInt8), untokF a o = .ok o' → untokF (a ++ b) o = untokF b o'
  | [], b, o, o', h => by injection h with h; subst h; rfl
  | t :: a, b, o, o', h => by
    unfold untokF at h
    rw [List.cons_append, untokF]
    split at h
    · rename_i h0
      rw [if_pos h0]
      exact untokF_append a b _ _ h
    · cases h
/-- push8, the new row's place by its number. -/
theorem push8H {ops : Array Oper} {rest : List Oper} {o : Oper} {a : Act} {Q : Exit → Act → World → Prop} (H : Nat) (w0 : World) (hH : w0.heap.size = H) (hgd : o.guard = none) (s x : Operand)
    (ho : o.op = .call { callee := .builtin .append, args := #[s, x], argTypes := #[22, 22] })
    (B : Nat) (v : Value) (l bs : List UInt8) (cs : Array Value) (m : Nat) (hs : a.eval s = v) (hx : a.eval x = .slice (some ⟨H, 0, none⟩) m m)
    (hown : Own w0 B v l) (hcs : cs.toList = us bs) (hm : bs.length = m) (hB : B ≤ w0.heap.size) (hl : l.length + m ≤ 1000000)
    (h : ∀ v' w', Own w' B v' (l ++ bs) → w0.grownBy w' v.ownBlock → Fresh w0 v v' → wpList Tryd.prog ops Q rest (a.put o.dst v') w') :
    wpList Tryd.prog ops Q (o :: rest) a (w0.alloc (.cells cs 5)) := by
  subst hH
  exact push8 w0 hgd s x ho B v l bs cs m hs hx hown hcs hm hB hl h
theorem copyN_more (d k : Nat) (o : List UInt8) : copyN d (k + 1) o = copyN d k (o ++ [o.getD (o.length - d) 0]) := rfl
theorem refuse_ok {t : Tk} {n : Nat} (h : refuse t n = 0) (hl : t.l ≠ 0) : 3 ≤ t.l ∧ t.l ≤ 258 ∧ 1 ≤ t.d ∧ t.d ≤ 32768 ∧ t.d ≤ (n : Int) ∧ t.b = 0 := by
  unfold refuse at h
  split at h
  · cases h
  · rename_i h1
    split at h
    · cases h
    · rename_i h2
      unfold formed at h1
      rw [if_neg hl] at h1
      have h3 : 3 ≤ t.l ∧ t.l ≤ 258 ∧ t.d ≠ 0 ∧ t.b = 0 := by
        by_cases h4 : 3 ≤ t.l ∧ t.l ≤ 258 ∧ t.d ≠ 0 ∧ t.b = 0
        · exact h4
        · exact absurd (decide_eq_false h4) h1
      exact ⟨h3.1, h3.2.1, by omega, by omega, by omega, h3.2.2.2⟩
/-- The bytes that were put out, in a row of one's own, beside a token's own block. -/
structure UI (w wr : World) (u : Value) (o : List UInt8) : Prop where
  own : Own wr w.heap.size u o
  below : Below w.heap.size w wr
theorem UI.grown {w wr w' : World} {u : Value} {o : List UInt8} (h : UI w wr u o) (hg : wr.grownBy w' none) : UI w w' u o :=
  ⟨World.ownsRow.kept h.own hg (ne_noneT u), h.below.trans ((below_make hg).mono h.below.size)⟩
theorem UI.push {w wr w' : World} {u u' : Value} {o o' : List UInt8} (h : UI w wr u o) (ho : Own w' w.heap.size u' o') (hg : wr.grownBy w' u.ownBlock) : UI w w' u' o' :=
  ⟨ho, h.below.grown hg h.below.size (fun k hk => (World.ownsRow.lt h.own k hk).1)⟩
set_option maxHeartbeats 4000000 in
set_option maxRecDepth 10000 in
theorem untokens_any (A : Option Addr) (n c : Nat) (l : List Tk) (w : World) (hr : RdT w w.heap.size A n l) (hn : n ≤ 1000000) (hB : ∀ k o, untokF (l.take k) [] = .ok o → o.length ≤ 900000) :
    Calls Tryd.prog 6 #[.slice A n c] w fun e w' => ∃ v k, e = .returned (.tuple #[v, errV k]) ∧ Below w.heap.size w w' ∧ ((k = 0 ∧ ∃ o, untokF l [] = .ok o ∧ Own w' w.heap.size v o) ∨ (k ≠ 0 ∧ untokF l [] = .error k ∧ v = .slice none 0 0)) := by
  obtain ⟨X, HX⟩ : ∃ X, RowKit.Hid (untokF l [] = X) := ⟨_, Lib.hid rfl⟩
  rw [HX.out]
  have HR := Lib.hid hr
  have HB := Lib.hid hB
  clear hr hB
  go_enter Tryd.func6, Tryd.ntmps6
  go_wp2_with fail
  go_loopw [4, 10] (fun u i wr => ∃ (k : Nat) (o : List UInt8), i = .int .i64 (k : Int) ∧ k ≤ n ∧ UI w wr u o ∧ untokF (l.take k) [] = .ok o ∧ untokF (l.drop k) o = X) (fun _ i _ => n - (intOf i).toNat)
  case atStart => exact ⟨0, [], rfl, Nat.zero_le _, ⟨Own.nil w _, Below.refl _ _⟩, rfl, HX.out⟩
  case round =>
    obtain ⟨k, o, rfl, hk, hI, hT, hD⟩ := hrel
    have HI := Lib.hid hI
    have HT := Lib.hid hT
    have HD := Lib.hid hD
    clear hI hT hD
    by_cases hlt : k < n
    · have d1 : decide ((k : Int) < (n : Int)) = true := decide_eq_true (by omega)
      obtain ⟨g, oo, a, rfl, hg, ha, c0, c1, c2⟩ := (HR.out.below HI.out.below).cells hlt
      have HA := Lib.hid ha
      have HD2 : RowKit.Hid ((if refuse a o.length = 0 then untokF (l.drop (k + 1)) (putT a o) else .error (refuse a o.length)) = X) := Lib.hid (by
        rw [← HD.out, show l.drop k = a :: l.drop (k + 1) by
          obtain ⟨h1, h2⟩ := List.getElem?_eq_some_iff.1 ha
          rw [← h2]; exact (List.drop_eq_getElem_cons h1), untokF])
      have HTM : RowKit.Hid (refuse a o.length = 0 → untokF (l.take (k + 1)) [] = .ok (putT a o)) := Lib.hid (fun h => by
        rw [take_more ha, untokF_append _ _ _ _ HT.out, untokF, if_pos h]; rfl)
      have hol := HB.out k o HT.out
      obtain ⟨Au, cu, rfl⟩ := HI.out.own.slice
      have HRF := Lib.hid (fun w => refusal_any a o.length (by omega) w)
      obtain ⟨R, hR⟩ : ∃ R, refuse a o.length = R := ⟨_, rfl⟩
      have HRO : RowKit.Hid (R = 0 → a.l ≠ 0 → 3 ≤ a.l ∧ a.l ≤ 258 ∧ 1 ≤ a.d ∧ a.d ≤ 32768 ∧ a.d ≤ (o.length : Int) ∧ a.b = 0) := Lib.hid (fun h hl => refuse_ok (hR.trans h) hl)
      rw [hR] at HRF HD2 HTM
      clear ha hg hR HD
      go_wp2_with fail
      refine (HRF.out _).mono ?_
      rintro e w2 ⟨rfl, hb2⟩
      have hga : wr.grownBy w2 none := (World.grownBy_alloc wr (.cells #[U8 a.b, .int .i64 a.l, .int .i64 a.d] 44) none).trans (grown_of_below hb2)
      have HI2 := Lib.hid (HI.out.grown hga)
      have hrow2 : Row w2 wr.heap.size #[U8 a.b, .int .i64 a.l, .int .i64 a.d] 44 := Row.below (heap_alloc_new wr (.cells #[U8 a.b, .int .i64 a.l, .int .i64 a.d] 44)) hb2 (by simp)
      have HRW := Lib.hid hrow2
      have k0 : w2.cell? ⟨wr.heap.size, 0, none⟩ = some (.int .u8 (a.b.toNat : Int)) := hrow2.cell 0
      have k1 : w2.cell? ⟨wr.heap.size, 1, none⟩ = some (.int .i64 a.l) := hrow2.cell 1
      have k2 : w2.cell? ⟨wr.heap.size, 2, none⟩ = some (.int .i64 a.d) := hrow2.cell 2
      clear hb2 hga hrow2 HRF c0 c1 c2
      cases R with
      | succ R =>
        have HX2 : RowKit.Hid (X = .error (R + 1)) := Lib.hid (by rw [← HD2.out, if_neg (by omega)])
        rw [show errV (R + 1) = .iface 50 (.int .i64 ((R + 1 : Nat) : Int)) from rfl]
        clear HTM HD2
        go_wp2_with fail
        go_ret2
        exact ⟨_, R + 1, rfl, HI2.out.below, .inr ⟨by omega, HX2.out, rfl⟩⟩
      | zero =>
        rw [show errV 0 = .nilIface from rfl]
        have HX2 : RowKit.Hid (untokF (l.drop (k + 1)) (putT a o) = X) := Lib.hid (by rw [← HD2.out, if_pos rfl])
        have HT2 := Lib.hid (HTM.out rfl)
        clear HTM HD2
        by_cases hl0 : a.l = 0
        · have d2 : (a.l == 0) = true := by rw [hl0]; rfl
          have HP : RowKit.Hid (putT a o = o ++ [a.b]) := Lib.hid (by unfold putT; rw [if_pos hl0])
          rw [HP.out] at HX2 HT2
          have HB2 : RowKit.Hid (w.heap.size ≤ w2.heap.size) := Lib.hid HI2.out.below.size
          have HL2 : RowKit.Hid (o.length + 1 ≤ 1000000) := Lib.hid (by omega)
          rw [hl0] at k1
          go_wp2_with (at_builtin; go_loud (refine push8 w2 rfl _ _ rfl w.heap.size (.slice Au o.length cu) o [a.b] _ 1 rfl rfl HI2.out.own rfl rfl HB2.out HL2.out ?_))
          intro v4 w4 ho4 hg4 hf4
          have HI4 := Lib.hid (HI2.out.push ho4 hg4)
          have hrow4 : Row w4 wr.heap.size #[U8 a.b, .int .i64 a.l, .int .i64 a.d] 44 := HRW.out.grown hg4 (fun e => by
            have h1 := HRW.out
            have h2 := (World.ownsRow.lt HI2.out.own _ e.symm)
            obtain ⟨A', c', h3⟩ := HI.out.own.slice
            have h5 := (World.ownsRow.lt HI.out.own _ e.symm).2
            omega)
          have q1 : w4.cell? ⟨wr.heap.size, 1, none⟩ = some (.int .i64 0) := by rw [← hl0]; exact hrow4.cell 1
          clear ho4 hg4 hf4 hrow4 k0 k1 k2 HRW HI2
          go_wp2_with fail
          go_loopw [4, 31] (fun u i wq => u = v4 ∧ i = .int .i64 0 ∧ wq = w4) (fun _ _ _ => 0)
          case atStart => exact ⟨rfl, rfl, rfl⟩
          case round =>
            obtain ⟨rfl, rfl, rfl⟩ := hrel
            go_wp2_with fail
            go_roundw
            case rel => exact ⟨k + 1, o ++ [a.b], by simp, by omega, HI4.out, HT2.out, HX2.out⟩
            case measure => simp [intOf]; omega
        · have d2 : (a.l == 0) = false := by rw [beq_eq_false_iff_ne]; exact hl0
          obtain ⟨b1, b2, b3, b4, b5, b6⟩ := HRO.out rfl hl0
          obtain ⟨L, hL⟩ : ∃ L : Nat, a.l = (L : Int) := ⟨a.l.toNat, by omega⟩
          obtain ⟨D, hD⟩ : ∃ D : Nat, a.d = (D : Int) := ⟨a.d.toNat, by omega⟩
          have HP : RowKit.Hid (putT a o = copyN D L o) := Lib.hid (by unfold putT; rw [if_neg hl0, hL, hD]; rfl)
          rw [HP.out] at HX2 HT2
          rw [hL] at k1 d2
          rw [hD] at k2
          have HLD : RowKit.Hid (3 ≤ L ∧ L ≤ 258 ∧ 1 ≤ D ∧ D ≤ o.length ∧ a.l = (L : Int) ∧ a.d = (D : Int)) := Lib.hid (by omega)
          clear b1 b2 b3 b4 b5 b6 hl0 hL hD HRO
          have HAP : RowKit.Hid (∀ b, (Value.slice Au o.length cu).ownBlock = some b → b ≠ wr.heap.size) := Lib.hid (fun b hb => by have := (World.ownsRow.lt HI.out.own _ hb).2; omega)
          go_wp2_with fail
          generalize wr.heap.size = G at HRW HAP k1 k2 ⊢
          go_loopw [4, 31] (fun u i wq => ∃ (j : Nat) (q : List UInt8), j ≤ L ∧ i = .int .i64 (j : Int) ∧ UI w wq u q ∧ q.length = o.length + j ∧ copyN D (L - j) q = copyN D L o ∧ Row wq G #[U8 a.b, .int .i64 a.l, .int .i64 a.d] 44 ∧ (∀ b, u.ownBlock = some b → b ≠ G)) (fun _ i _ => L - (intOf i).toNat)
          case atStart => exact ⟨0, o, Nat.zero_le _, rfl, HI2.out, rfl, rfl, HRW.out, HAP.out⟩
          case round =>
            clear HI2 k0 k1 k2 HRW HAP HI
            obtain ⟨j, q, hj, rfl, hJ, hq, hcp, hrow, hne⟩ := hrel
            obtain ⟨Aq, cq, rfl⟩ := hJ.own.slice
            obtain ⟨m, hm⟩ : ∃ m, o.length + j = m := ⟨_, rfl⟩
            rw [hm] at hq
            have HM := Lib.hid hm
            have HQ := Lib.hid hq
            have hDm : D ≤ m := by have := HLD.out; omega
            have hL258 : L ≤ 258 := HLD.out.2.1
            have hmo : m ≤ 900258 := by have := HLD.out; omega
            rw [hq] at hJ ⊢
            have HJ := Lib.hid hJ
            clear hm
            have HRW2 := Lib.hid hrow
            have HCP := Lib.hid hcp
            have HNE := Lib.hid hne
            have k2 : wr.cell? ⟨G, 2, none⟩ = some (.int .i64 (D : Int)) := by rw [← HLD.out.2.2.2.2.2]; exact hrow.cell 2
            have hd := HLD.out
            clear hJ hrow hcp hne
            by_cases hjl : j < L
            · have d3 : decide ((j : Int) < (L : Int)) = true := decide_eq_true (by omega)
              have HRD := Lib.hid HJ.out.own.rd.2
              obtain ⟨P, hP⟩ : ∃ P, m - D = P := ⟨_, rfl⟩
              obtain ⟨gq, oq, rfl, hgq, hcq⟩ := HRD.out.byte (k := P) (by have := HLD.out; omega)
              have ct := hcq P (by have := HLD.out; omega)
              have eP : (m : Int) - (D : Int) = (P : Int) := by omega
              have hPl : P < m := by have := HLD.out; omega
              obtain ⟨x, hx⟩ : ∃ x, q.getD P 0 = x := ⟨_, rfl⟩
              rw [hx] at ct
              have HCP2 : RowKit.Hid (copyN D (L - (j + 1)) (q ++ [x]) = copyN D L o) := Lib.hid (by rw [← HCP.out, show L - j = (L - (j + 1)) + 1 by omega, copyN_more, HQ.out, hP, hx])
              have HB2 : RowKit.Hid (w.heap.size ≤ wr.heap.size) := Lib.hid HJ.out.below.size
              have HL2 : RowKit.Hid (q.length + 1 ≤ 1000000) := Lib.hid (by rw [HQ.out]; omega)
              clear hcq hgq hx hd HCP hP hq
              go_wp2_with (at_builtin; refine push8 wr rfl _ _ rfl w.heap.size (.slice (some ⟨gq, oq, none⟩) m cq) q [x] _ 1 rfl rfl HJ.out.own rfl rfl HB2.out HL2.out ?_)
              intro v4 w4 ho4 hg4 hf4
              have HJ4 := Lib.hid (HJ.out.push ho4 hg4)
              have HRW4 : RowKit.Hid (Row w4 G #[U8 a.b, .int .i64 a.l, .int .i64 a.d] 44) := Lib.hid (HRW2.out.grown hg4 (fun e => HNE.out G e.symm rfl))
              have HNE4 : RowKit.Hid (∀ b, v4.ownBlock = some b → b ≠ G) := Lib.hid (fun b hb => by
                rcases hf4 with h | ⟨k', h, hk'⟩
                · exact HNE.out b (h ▸ hb)
                · rw [h] at hb
                  injection hb with hb
                  have := HRW2.out.lt
                  omega)
              clear ho4 hg4 hf4 k2 ct
              go_wp2_with fail
              go_roundw
              case rel => exact ⟨j + 1, q ++ [x], by omega, by simp, HJ4.out, by have := HM.out; have := HQ.out; simp; omega, HCP2.out, HRW4.out, HNE4.out⟩
              case measure => simp [intOf]; omega
            · obtain rfl : j = L := by omega
              have d3 : decide ((j : Int) < (j : Int)) = false := decide_eq_false (by omega)
              have hqe : q = copyN D j o := by rw [← HCP.out, Nat.sub_self]; rfl
              rw [← hqe] at HX2 HT2
              clear k2 hd HRW2 HNE HCP
              go_wp2_with fail
              go_roundw
              case rel => exact ⟨k + 1, q, by simp, by omega, HJ.out, HT2.out, HX2.out⟩
              case measure => simp [intOf]; omega
    · obtain rfl : k = n := by omega
      have d1 : decide ((k : Int) < (k : Int)) = false := decide_eq_false (by omega)
      have hl : l.length = k := HR.out.1
      have HX2 : RowKit.Hid (X = .ok o) := Lib.hid (by rw [← HD.out, List.drop_eq_nil_of_le (by omega)]; rfl)
      go_wp2_with fail
      go_ret2
      exact ⟨_, 0, rfl, HI.out.below, .inl ⟨rfl, o, HX2.out, HI.out.own⟩⟩
end Go.Proofs.YtpnnlhegncbfaaaDoor
