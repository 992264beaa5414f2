
/- Contract of deflate's Tokens. -/

/- Contracts of alive, document and crossdocknum's Bytes. -/

/- Which tokens are a text's, as plain functions; contracts of isFormed and refusal. -/
import Derived.Test.YtpnnlhegncbfaaaDoorGroupR
import Derived.Lib.SlBytesConst
namespace Go.Proofs.YtpnnlhegncbfaaaDoor
set_option maxRecDepth 20000
open Go.RowKit

theorem step_sz (l : List UInt8) (q : Nat) : szI (tokAt l q).l = (stepT l q : Int) := by
  unfold szI stepT tokAt tokF
  split <;> split <;> simp_all <;> omega
/-- What Tokens' loop keeps. -/
structure TN (w wr : World) (l : List UInt8) (n H q : Nat) (u : Value) (D : List Tk) : Prop where
  row : Row wr H (ib (alikeF l) n) 3
  own : OwnT 44 wr (w.heap.size + 1) u D
  below : Below w.heap.size w wr
  size : w.heap.size + 1 ≤ wr.heap.size
set_option maxHeartbeats 2000000 in
set_option maxRecDepth 10000 in
theorem tokens_any (A : Option Addr) (n c : Nat) (l : List UInt8) (w : World) (hr : Rd w w.heap.size A n (us l)) (hn : n ≤ 1000000) :
    Calls Tryd.prog 7 #[.slice A n c] w fun e w' => ∃ v, e = .returned v ∧ OwnT 44 w' w.heap.size v (toksT l) ∧ Below w.heap.size w w' := by
  have HL : RowKit.Hid (l.length = n) := Lib.hid (by have := hr.1; rwa [us_length] at this)
  have HR := Lib.hid hr
  clear hr
  obtain ⟨X, HX⟩ : ∃ X, RowKit.Hid (toksT l = X) := ⟨_, Lib.hid rfl⟩
  rw [HX.out]
  go_enter Tryd.func7, Tryd.ntmps7
  go_wp2_with fail
  refine (places_any A n c l w HR.out hn).mono ?_
  rintro e w1 ⟨rfl, hrow, hb1⟩
  have HI0 : RowKit.Hid (TN w w1 l n w.heap.size 0 (.slice none 0 0) []) := Lib.hid ⟨hrow, OwnT.nil 44 w1 _, hb1, hrow.lt⟩
  clear hrow hb1
  go_wp2_with fail
  go_loopw [3, 5] (fun u i wr => ∃ (q : Nat) (D : List Tk), i = .int .i64 (q : Int) ∧ q ≤ n ∧ D.length ≤ q ∧ TN w wr l n w.heap.size q u D ∧ D ++ toksF l (n - q) q = X) (fun _ i _ => n - (intOf i).toNat)
  case atStart => exact ⟨0, [], rfl, Nat.zero_le _, Nat.zero_le _, HI0.out, by rw [← HX.out]; unfold toksT; rw [HL.out]; rfl⟩
  case round =>
    clear HI0
    obtain ⟨q, D, rfl, hq, hD, hI, hX⟩ := hrel
    have HI := Lib.hid hI
    have HXX := Lib.hid hX
    clear hI hX
    by_cases hlt : q < n
    · have d1 : decide ((q : Int) < (n : Int)) = true := decide_eq_true (by omega)
      have hsz := HI.out.size
      have HTA := Lib.hid (tokenAt_any A n c l w.heap.size q wr ((HR.out.below HI.out.below).more (by omega)) hn HI.out.row hlt)
      have HX2 : RowKit.Hid (D ++ [tokAt l q] ++ toksF l (n - (q + stepT l q)) (q + stepT l q) = X) := Lib.hid (by
        rw [← HXX.out, show n - q = (n - q - 1) + 1 by omega, toksF, if_pos (by rw [HL.out]; exact hlt), List.append_assoc, List.singleton_append]
        have h1 : 1 ≤ stepT l q := Nat.le_max_left ..
        rw [toksF_more (F := n - (q + stepT l q)) (G := n - q - 1) (by rw [HL.out]; omega) (by rw [HL.out]; omega)])
      have HST : RowKit.Hid (1 ≤ stepT l q ∧ q + stepT l q ≤ n) := Lib.hid ⟨Nat.le_max_left .., by
        have h1 := best_good l q
        have h2 : mostF l.length q = min 258 (n - q) := by unfold mostF; rw [HL.out]
        unfold stepT
        omega⟩
      have HSZ := Lib.hid (step_sz l q)
      generalize stepT l q = st at HX2 HST HSZ
      obtain ⟨tk, htk⟩ : ∃ tk, tokAt l q = tk := ⟨_, rfl⟩
      rw [htk] at HTA HX2 HSZ
      have HZA := Lib.hid (fun w => size_any tk w)
      rw [HSZ.out] at HZA
      clear htk HSZ HXX
      go_wp2_with fail
      refine HTA.out.mono ?_
      rintro e w2 ⟨rfl, hb2⟩
      have hg2 := grown_of_below hb2
      have hI2 : TN w w2 l n w.heap.size q u3 D := ⟨HI.out.row.grown hg2 (by simp), World.ownsRow.kept HI.out.own hg2 (ne_noneT u3), HI.out.below.trans (hb2.mono HI.out.below.size), Nat.le_trans HI.out.size hg2.size⟩
      have HI2 := Lib.hid hI2
      clear hb2 hg2 hI2 HI HTA hsz
      have HO := Lib.hid (World.ownsRow.alloc HI2.out.own (.cells #[U8 tk.b, .int .i64 tk.l, .int .i64 tk.d] 44))
      have HB0 : RowKit.Hid (w.heap.size + 1 ≤ (w2.alloc (.cells #[U8 tk.b, .int .i64 tk.l, .int .i64 tk.d] 44)).heap.size) := Lib.hid (by have := HI2.out.size; simp; omega)
      have HD0 : RowKit.Hid (D.length ≤ 1000000) := Lib.hid (by omega)
      go_wp2_with (at_builtin; refine pushT 29 44 Tryd.underlying29 info45 (w2.alloc (.cells #[U8 tk.b, .int .i64 tk.l, .int .i64 tk.d] 44)) (w2.heap.size + 1) (by simp) rfl _ _ rfl (w.heap.size + 1) u3 D tk _ rfl rfl HO.out rfl HB0.out HD0.out ?_)
      intro v4 w4 ho4 hg4
      have hrow4 : Row w4 w2.heap.size #[U8 tk.b, .int .i64 tk.l, .int .i64 tk.d] 44 := by
        have h1 : Row (w2.alloc (.cells #[U8 tk.b, .int .i64 tk.l, .int .i64 tk.d] 44)) w2.heap.size #[U8 tk.b, .int .i64 tk.l, .int .i64 tk.d] 44 := heap_alloc_new w2 _
        refine h1.grown hg4 (fun e => ?_)
        have := (World.ownsRow.lt HI2.out.own _ e.symm).2
        omega
      obtain ⟨A4, c4, rfl⟩ := ho4.slice
      have c0 : w4.cell? ⟨w2.heap.size, 0, none⟩ = some (.int .u8 (tk.b.toNat : Int)) := hrow4.cell 0
      have c1 : w4.cell? ⟨w2.heap.size, 1, none⟩ = some (.int .i64 tk.l) := hrow4.cell 1
      have c2 : w4.cell? ⟨w2.heap.size, 2, none⟩ = some (.int .i64 tk.d) := hrow4.cell 2
      have hga : w2.grownBy w4 u3.ownBlock := (grown_any (World.grownBy_alloc w2 _ none) _).trans hg4
      have hne : some w.heap.size ≠ u3.ownBlock := fun e => by have := (World.ownsRow.lt HI2.out.own _ e.symm).1; omega
      have HI4 : RowKit.Hid (TN w w4 l n w.heap.size q (.slice A4 (D ++ [tk]).length c4) (D ++ [tk])) := Lib.hid ⟨HI2.out.row.grown hga hne, ho4, HI2.out.below.grown hga HI2.out.below.size (fun k hk => by have := (World.ownsRow.lt HI2.out.own k hk).1; omega), Nat.le_trans HI2.out.size hga.size⟩
      clear ho4 hg4 hga hne hrow4 HO HB0 HI2
      go_wp2_with fail
      refine (HZA.out w4).mono ?_
      rintro e w5 ⟨rfl, hb5⟩
      have hg5 := grown_of_below hb5
      have HI5 : RowKit.Hid (TN w w5 l n w.heap.size (q + st) (.slice A4 (D ++ [tk]).length c4) (D ++ [tk])) := Lib.hid ⟨HI4.out.row.grown hg5 (by simp), World.ownsRow.kept HI4.out.own hg5 (ne_noneT _), HI4.out.below.trans (hb5.mono HI4.out.below.size), Nat.le_trans HI4.out.size hg5.size⟩
      rw [List.length_append, List.length_singleton] at HI5
      have hst2 : q + st ≤ n := HST.out.2
      clear hb5 hg5 c0 c1 c2 HI4 HZA
      go_wp2_with fail
      go_roundw
      case rel => exact ⟨q + st, D ++ [tk], by simp, HST.out.2, by have := HST.out.1; simp; omega, HI5.out, HX2.out⟩
      case measure => have := HST.out; simp [intOf]; omega
    · obtain rfl : q = n := by omega
      have d1 : decide ((q : Int) < (q : Int)) = false := decide_eq_false (by omega)
      have HXD : RowKit.Hid (D = X) := Lib.hid (by rw [← HXX.out, Nat.sub_self]; simp [toksF])
      go_wp2_with fail
      go_ret
      exact ⟨_, rfl, by rw [← HXD.out]; exact ⟨HI.out.own.1, (HI.out.own.2.imp id (fun ⟨g, cap, cur, h1, h2, h3⟩ => ⟨g, cap, cur, h1, by omega, h3⟩))⟩, HI.out.below⟩
end Go.Proofs.YtpnnlhegncbfaaaDoor
namespace Go.Proofs.YtpnnlhegncbfaaaDoor
set_option maxRecDepth 20000
open Go.RowKit

theorem known : toksT [97, 97, 97, 97] = [⟨97, 0, 0⟩, ⟨0, 3, 1⟩] := by decide +kernel
/-- Bytes that were just laid in a block of their own read as their list. -/
theorem Rd.laid (w : World) (cs : Array Value) (fr : Nat × Nat) (l : List UInt8) (n : Nat) (h : cs.toList = us l) (hn : l.length = n) :
    Rd (w.alloc (.cells cs 5 fr)) (w.alloc (.cells cs 5 fr)).heap.size (some ⟨w.heap.size, 0, none⟩) n (us l) := by
  refine ⟨by rw [us_length, hn], fun _ => ⟨w.heap.size, 0, rfl, by simp, fun j u hu => ?_⟩⟩
  have hc : ∀ j u, cs.toList[j]? = some u → (w.alloc (.cells cs 5 fr)).cell? ((⟨w.heap.size, 0, none⟩ : Addr).add j) = some u := World.news_of_block (fr := fr) (by exact heap_alloc_new w _)
  have := hc j u (by rw [h]; exact hu)
  rw [Go.WideShapes.add_plain] at this
  exact this
theorem eq_tok (w : World) : (binOp .eql 44 (.agg #[.int .u8 97, .int .i64 0, .int .i64 0]) (.agg #[.int .u8 97, .int .i64 0, .int .i64 0])).run Tryd.prog w = .ok (.bool true) w := by kernel_rfl
theorem eq_tok2 (w : World) : (binOp .eql 44 (.agg #[.int .u8 0, .int .i64 3, .int .i64 1]) (.agg #[.int .u8 0, .int .i64 3, .int .i64 1])).run Tryd.prog w = .ok (.bool true) w := by kernel_rfl
set_option maxHeartbeats 1000000 in
set_option maxRecDepth 10000 in
theorem alive_true (w : World) : Calls Tryd.prog 5 #[] w fun e w' => e = .returned (.bool true) ∧ Below w.heap.size w w' := by
  have kc := fun (w : World) (C : Array Value) (n c : Nat) => Lib.run_convert_bytes_const (P := Tryd.prog) w 22 5 C n c Tryd.underlying22 Tryd.underlying5
  go_enter Tryd.func5, Tryd.ntmps5
  go_wp2_with fail
  have hb : Below w.heap.size w (w.alloc (.cells #[.int .u8 97, .int .u8 97, .int .u8 97, .int .u8 97] 5 (4, 5))) := (Below.refl _ _).alloc (Nat.le_refl _) _
  have ho := Rd.laid w #[.int .u8 97, .int .u8 97, .int .u8 97, .int .u8 97] (4, 5) [97, 97, 97, 97] 4 rfl rfl
  clear kc
  refine (tokens_any _ 4 4 _ _ ho (by decide)).mono ?_
  generalize w.alloc (.cells #[.int .u8 97, .int .u8 97, .int .u8 97, .int .u8 97] 5 (4, 5)) = w1 at hb ho ⊢
  rintro e w2 ⟨v, rfl, hown, hb2⟩
  rw [known] at hown
  have HB := Lib.hid (hb.trans (hb2.mono hb.size))
  obtain ⟨A, c, rfl, _, hrd⟩ := hown.rd
  obtain ⟨g, o, a0, rfl, hg, ha0, c0, c1, c2⟩ := hrd.cells (k := 0) (by decide)
  obtain ⟨g', o', a1, hgo, _, ha1, k0, k1, k2⟩ := hrd.cells (k := 1) (by decide)
  injection hgo with hgo
  injection hgo with e1 e2
  subst e1 e2
  injection ha0 with ha0
  injection ha1 with ha1
  subst ha0 ha1
  have q1 := eq_tok w2
  have q2 := eq_tok2 w2
  have x0 : w2.cell? ⟨g, o, none⟩ = some (.int .u8 97) := c0
  have x1 : w2.cell? ⟨g, o + 1, none⟩ = some (.int .i64 0) := by simpa using c1
  have x2 : w2.cell? ⟨g, o + 2, none⟩ = some (.int .i64 0) := by simpa using c2
  have x3 : w2.cell? ⟨g, o + 3, none⟩ = some (.int .u8 0) := by simpa using k0
  have x4 : w2.cell? ⟨g, o + 4, none⟩ = some (.int .i64 3) := by simpa using k1
  have x5 : w2.cell? ⟨g, o + 5, none⟩ = some (.int .i64 1) := by simpa using k2
  clear hb ho hb2 hown hrd hg c0 c1 c2 k0 k1 k2
  go_wp2_with fail
  go_ret
  exact ⟨rfl, HB.out⟩
end Go.Proofs.YtpnnlhegncbfaaaDoor
namespace Go.Proofs.YtpnnlhegncbfaaaDoor
set_option maxRecDepth 20000
open Go.RowKit

def formed (t : Tk) : Bool := if t.l = 0 then decide (t.d = 0) else decide (3 ≤ t.l ∧ t.l ≤ 258 ∧ t.d ≠ 0 ∧ t.b = 0)
/-- Why a token can't stand behind n bytes: an error's number. -/
def refuse (t : Tk) (n : Nat) : Nat :=
  if formed t = false then 2 else if 0 < t.l ∧ (t.d < 1 ∨ 32768 < t.d ∨ (n : Int) < t.d) then 1 else if 1048576 < (n : Int) + szI t.l then 3 else 0
/-- k bytes from so far back. -/
def copyN (d : Nat) : Nat → List UInt8 → List UInt8
  | 0, o => o
  | k + 1, o => copyN d k (o ++ [o.getD (o.length - d) 0])
def putT (t : Tk) (o : List UInt8) : List UInt8 := if t.l = 0 then o ++ [t.b] else copyN t.d.toNat t.l.toNat o
def untokF : List Tk → List UInt8 → Except Nat (List UInt8)
  | [], o => .ok o
  | t :: r, o => if refuse t o.length = 0 then untokF r (putT t o) else .error (refuse t o.length)
theorem copyN_length (d : Nat) : ∀ k o, (copyN d k o).length = o.length + k
  | 0, o => by simp [copyN]
  | k + 1, o => by rw [copyN, copyN_length d k]; simp; omega
theorem b_zero (b : UInt8) : (((b.toNat : Int) == 0) = decide (b = 0)) := by
  by_cases h : b = 0
  · subst h; rfl
  · rw [decide_eq_false h, beq_eq_false_iff_ne]
    intro e
    exact h (UInt8.toNat_inj.1 (by rw [show (0 : UInt8).toNat = 0 from rfl]; omega))
set_option maxHeartbeats 1000000 in
set_option maxRecDepth 10000 in
theorem isFormed_any (t : Tk) (w : World) : Calls Tryd.prog 33 #[tokV t] w fun e w' => e = .returned (.bool (formed t)) ∧ Below w.heap.size w w' := by
  have hb := b_zero t.b
  have HBL : ∀ cs, Below w.heap.size w (w.alloc (.cells cs 44)) := fun cs => (Below.refl _ _).alloc (Nat.le_refl _) _
  go_enter Tryd.func33, Tryd.ntmps33
  by_cases h0 : t.l = 0
  · have d0 : (t.l == 0) = true := by rw [h0]; rfl
    go_wp2_with fail
    go_ret
    refine ⟨?_, HBL _⟩
    unfold formed
    rw [if_pos h0, ← show (t.d == 0) = decide (t.d = 0) by rw [Bool.eq_iff_iff]; simp]
    rfl
  · have d0 : (t.l == 0) = false := by rw [beq_eq_false_iff_ne]; exact h0
    by_cases h1 : 3 ≤ t.l
    · have d1 : decide (3 ≤ t.l) = true := decide_eq_true h1
      by_cases h2 : t.l ≤ 258
      · have d2 : decide (t.l ≤ 258) = true := decide_eq_true h2
        by_cases h3 : t.d = 0
        · have d3 : (t.d != 0) = false := by rw [h3]; rfl
          go_wp2_with fail
          go_ret
          exact ⟨by unfold formed; rw [if_neg h0, decide_eq_false (by simp [h3])]; rfl, HBL _⟩
        · have d3 : (t.d != 0) = true := by rw [bne_iff_ne]; exact h3
          have hf : formed t = decide (t.b = 0) := by unfold formed; rw [if_neg h0]; simp [h1, h2, h3]
          go_wp2_with fail
          go_ret
          refine ⟨?_, HBL _⟩
          rw [hf, ← hb]; rfl
      · have d2 : decide (t.l ≤ 258) = false := decide_eq_false h2
        go_wp2_with fail
        go_ret
        exact ⟨by unfold formed; rw [if_neg h0, decide_eq_false (by omega)]; rfl, HBL _⟩
    · have d1 : decide (3 ≤ t.l) = false := decide_eq_false h1
      go_wp2_with fail
      go_ret
      exact ⟨by unfold formed; rw [if_neg h0, decide_eq_false (by omega)]; rfl, HBL _⟩

theorem isForm_false {t : Tk} (h : formed t = true) : t.l = 0 ∨ (3 ≤ t.l ∧ t.l ≤ 258) := by
  unfold formed at h
  split at h
  · exact .inl (by assumption)
  · have := of_decide_eq_true h
    exact .inr ⟨this.1, this.2.1⟩
set_option maxHeartbeats 2000000 in
set_option maxRecDepth 10000 in
theorem refusal_any (t : Tk) (n : Nat) (hn : n ≤ 1048576) (w : World) : Calls Tryd.prog 16 #[tokV t, .int .i64 (n : Int)] w fun e w' => e = .returned (errV (refuse t n)) ∧ Below w.heap.size w w' := by
  obtain ⟨R, HR⟩ : ∃ R, RowKit.Hid (refuse t n = R) := ⟨_, Lib.hid rfl⟩
  rw [HR.out]
  have HBL : ∀ cs, Below w.heap.size w (w.alloc (.cells cs 44)) := fun cs => (Below.refl _ _).alloc (Nat.le_refl _) _
  have hsz : ∀ cs : Array Value, (w.alloc (.cells cs 44)).heap.size = w.heap.size + 1 := fun cs => by simp
  go_enter Tryd.func16, Tryd.ntmps16
  go_wp2_with fail
  refine (isFormed_any t _).mono ?_
  rintro e w1 ⟨rfl, hb1⟩
  have hrow : Row w1 w.heap.size #[U8 t.b, .int .i64 t.l, .int .i64 t.d] 44 := Row.below (heap_alloc_new w (.cells #[U8 t.b, .int .i64 t.l, .int .i64 t.d] 44)) hb1 (by simp)
  have HB1 := Lib.hid ((HBL _).trans (hb1.mono (by simp)))
  have c0 : w1.cell? ⟨w.heap.size, 0, none⟩ = some (.int .u8 (t.b.toNat : Int)) := hrow.cell 0
  have c1 : w1.cell? ⟨w.heap.size, 1, none⟩ = some (.int .i64 t.l) := hrow.cell 1
  have c2 : w1.cell? ⟨w.heap.size, 2, none⟩ = some (.int .i64 t.d) := hrow.cell 2
  clear hb1 hrow HBL hsz
  cases hf : formed t with
  | false =>
    have HR2 : RowKit.Hid (R = 2) := Lib.hid (by rw [← HR.out]; unfold refuse; rw [if_pos hf])
    go_wp2_with fail
    go_ret
    exact ⟨by rw [HR2.out]; rfl, HB1.out⟩
  | true =>
    have hfl := isForm_false hf
    by_cases hr : 0 < t.l ∧ (t.d < 1 ∨ 32768 < t.d ∨ (n : Int) < t.d)
    · have HR2 : RowKit.Hid (R = 1) := Lib.hid (by rw [← HR.out]; unfold refuse; rw [if_neg (by rw [hf]; decide), if_pos hr])
      have d1 : decide (0 < t.l) = true := decide_eq_true hr.1
      by_cases h1 : t.d < 1
      · have d2 : decide (t.d < 1) = true := decide_eq_true h1
        go_wp2_with fail
        go_ret
        exact ⟨by rw [HR2.out]; rfl, HB1.out⟩
      · have d2 : decide (t.d < 1) = false := decide_eq_false h1
        by_cases h2 : (n : Int) < 32768
        · have d3 : decide ((n : Int) < t.d) = true := decide_eq_true (by omega)
          clear hr hfl h1 hf
          go_wp2_with fail
          go_ret
          exact ⟨by rw [HR2.out]; rfl, HB1.out⟩
        · have d3 : decide (32768 < t.d) = true := decide_eq_true (by omega)
          clear hr hfl h1 hf
          go_wp2_with fail
          go_ret
          exact ⟨by rw [HR2.out]; rfl, HB1.out⟩
    · have hR0 : refuse t n = if 1048576 < (n : Int) + szI t.l then 3 else 0 := by unfold refuse; rw [if_neg (by rw [hf]; decide), if_neg hr]
      have HZA := Lib.hid (fun w => size_any t w)
      obtain ⟨z, hz⟩ : ∃ z, szI t.l = z := ⟨_, rfl⟩
      have hz2 : 1 ≤ z ∧ z ≤ 258 := by rw [← hz]; unfold szI; split <;> omega
      rw [hz] at HZA hR0
      rw [hR0] at HR
      clear hR0 hz hf
      by_cases h0 : 0 < t.l
      · have d1 : decide (0 < t.l) = true := decide_eq_true h0
        have d2 : decide (t.d < 1) = false := decide_eq_false (by omega)
        have d3 : decide (32768 < t.d) = false := decide_eq_false (by omega)
        have d4 : decide ((n : Int) < t.d) = false := decide_eq_false (by omega)
        by_cases h2 : (n : Int) < 32768
        · by_cases h4 : 1048576 < (n : Int) + z
          · have HR2 : RowKit.Hid (R = 3) := Lib.hid (by rw [← HR.out, if_pos h4])
            have d5 : decide (1048576 - (n : Int) < z) = true := decide_eq_true (by omega)
            clear hr HR hfl hz2
            go_wp2_with fail
            all_goals
              refine (HZA.out w1).mono ?_
              rintro e w5 ⟨rfl, hb5⟩
              have HB5 := Lib.hid (HB1.out.trans (hb5.mono HB1.out.size))
              clear hb5
              go_wp2_with fail
              go_ret
              exact ⟨by rw [HR2.out]; rfl, HB5.out⟩
          · have HR2 : RowKit.Hid (R = 0) := Lib.hid (by rw [← HR.out, if_neg h4])
            have d5 : decide (1048576 - (n : Int) < z) = false := decide_eq_false (by omega)
            clear hr HR hfl hz2
            go_wp2_with fail
            all_goals
              refine (HZA.out w1).mono ?_
              rintro e w5 ⟨rfl, hb5⟩
              have HB5 := Lib.hid (HB1.out.trans (hb5.mono HB1.out.size))
              clear hb5
              go_wp2_with fail
              go_ret
              exact ⟨by rw [HR2.out]; rfl, HB5.out⟩
        · by_cases h4 : 1048576 < (n : Int) + z
          · have HR2 : RowKit.Hid (R = 3) := Lib.hid (by rw [← HR.out, if_pos h4])
            have d5 : decide (1048576 - (n : Int) < z) = true := decide_eq_true (by omega)
            clear hr HR hfl hz2
            go_wp2_with fail
            all_goals
              refine (HZA.out w1).mono ?_
              rintro e w5 ⟨rfl, hb5⟩
              have HB5 := Lib.hid (HB1.out.trans (hb5.mono HB1.out.size))
              clear hb5
              go_wp2_with fail
              go_ret
              exact ⟨by rw [HR2.out]; rfl, HB5.out⟩
          · have HR2 : RowKit.Hid (R = 0) := Lib.hid (by rw [← HR.out, if_neg h4])
            have d5 : decide (1048576 - (n : Int) < z) = false := decide_eq_false (by omega)
            clear hr HR hfl hz2
            go_wp2_with fail
            all_goals
              refine (HZA.out w1).mono ?_
              rintro e w5 ⟨rfl, hb5⟩
              have HB5 := Lib.hid (HB1.out.trans (hb5.mono HB1.out.size))
              clear hb5
              go_wp2_with fail
              go_ret
              exact ⟨by rw [HR2.out]; rfl, HB5.out⟩
      · have d1 : decide (0 < t.l) = false := decide_eq_false h0
        by_cases h4 : 1048576 < (n : Int) + z
        · have HR2 : RowKit.Hid (R = 3) := Lib.hid (by rw [← HR.out, if_pos h4])
          have d5 : decide (1048576 - (n : Int) < z) = true := decide_eq_true (by omega)
          clear hr HR hfl hz2
          go_wp2_with fail
          all_goals
            refine (HZA.out w1).mono ?_
            rintro e w5 ⟨rfl, hb5⟩
            have HB5 := Lib.hid (HB1.out.trans (hb5.mono HB1.out.size))
            clear hb5
            go_wp2_with fail
            go_ret
            exact ⟨by rw [HR2.out]; rfl, HB5.out⟩
        · have HR2 : RowKit.Hid (R = 0) := Lib.hid (by rw [← HR.out, if_neg h4])
          have d5 : decide (1048576 - (n : Int) < z) = false := decide_eq_false (by omega)
          clear hr HR hfl hz2
          go_wp2_with fail
          all_goals
            refine (HZA.out w1).mono ?_
            rintro e w5 ⟨rfl, hb5⟩
            have HB5 := Lib.hid (HB1.out.trans (hb5.mono HB1.out.size))
            clear hb5
            go_wp2_with fail
            go_ret
            exact ⟨by rw [HR2.out]; rfl, HB5.out⟩
end Go.Proofs.YtpnnlhegncbfaaaDoor
