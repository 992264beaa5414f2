
/- Contract of deflate's Tokens. -/

/- Contracts of alive, document and crossdocknum's Bytes. -/

/- Which tokens are a text's, as plain functions; contracts of isFormed and refusal. -/
import Derived.Test.YtpnnlhegncbfaaaGreatDoorGroupR
import Derived.Lib.SlBytesConst
namespace Go.Proofs.YtpnnlhegncbfaaaGreatDoor
set_option maxRecDepth 20000
open Go.RowKit

theorem step_sz (l : List UInt8) (q : Nat) : szI (tokAt l q).l = (stepT l q : Int) := by
  unfold szI stepT tokAt tokF
  split <;> split <;> simp_all <;> omega
/-- What Tokens' loop keeps. -/
structure TN (w wr : World) (l : List UInt8) (n H q : Nat) (u : Value) (D : List Tk) : Prop where
  row : Row wr H (ib (alikeF l) n) 3
  own : OwnT 108 wr (w.heap.size + 1) u D
  below : Below w.heap.size w wr
  size : w.heap.size + 1 ≤ wr.heap.size
set_option maxHeartbeats 2000000 in
set_option maxRecDepth 10000 in
theorem tokens_any (A : Option Addr) (n c : Nat) (l : List UInt8) (w : World) (hr : Rd w w.heap.size A n (us l)) (hn : n ≤ 1000000) :
    Calls Tryz.prog 62 #[.slice A n c] w fun e w' => ∃ v, e = .returned v ∧ OwnT 108 w' w.heap.size v (toksT l) ∧ Below w.heap.size w w' := by
  have HL : RowKit.Hid (l.length = n) := Lib.hid (by have := hr.1; rwa [us_length] at this)
  have HR := Lib.hid hr
  clear hr
  obtain ⟨X, HX⟩ : ∃ X, RowKit.Hid (toksT l = X) := ⟨_, Lib.hid rfl⟩
  rw [HX.out]
  go_enter Tryz.func62, Tryz.ntmps62
  go_wp2_with fail
  refine (places_any A n c l w HR.out hn).mono ?_
  rintro e w1 ⟨rfl, hrow, hb1⟩
  have HI0 : RowKit.Hid (TN w w1 l n w.heap.size 0 (.slice none 0 0) []) := Lib.hid ⟨hrow, OwnT.nil 108 w1 _, hb1, hrow.lt⟩
  clear hrow hb1
  go_wp2_with fail
  go_loopw [3, 5] (fun u i wr => ∃ (q : Nat) (D : List Tk), i = .int .i64 (q : Int) ∧ q ≤ n ∧ D.length ≤ q ∧ TN w wr l n w.heap.size q u D ∧ D ++ toksF l (n - q) q = X) (fun _ i _ => n - (intOf i).toNat)
  case atStart => exact ⟨0, [], rfl, Nat.zero_le _, Nat.zero_le _, HI0.out, by rw [← HX.out]; unfold toksT; rw [HL.out]; rfl⟩
  case round =>
    clear HI0
    obtain ⟨q, D, rfl, hq, hD, hI, hX⟩ := hrel
    have HI := Lib.hid hI
    have HXX := Lib.hid hX
    clear hI hX
    by_cases hlt : q < n
    · have d1 : decide ((q : Int) < (n : Int)) = true := decide_eq_true (by omega)
      have hsz := HI.out.size
      have HTA := Lib.hid (tokenAt_any A n c l w.heap.size q wr ((HR.out.below HI.out.below).more (by omega)) hn HI.out.row hlt)
      have HX2 : RowKit.Hid (D ++ [tokAt l q] ++ toksF l (n - (q + stepT l q)) (q + stepT l q) = X) := Lib.hid (by
        rw [← HXX.out, show n - q = (n - q - 1) + 1 by omega, toksF, if_pos (by rw [HL.out]; exact hlt), List.append_assoc, List.singleton_append]
        have h1 : 1 ≤ stepT l q := Nat.le_max_left ..
        rw [toksF_more (F := n - (q + stepT l q)) (G := n - q - 1) (by rw [HL.out]; omega) (by rw [HL.out]; omega)])
      have HST : RowKit.Hid (1 ≤ stepT l q ∧ q + stepT l q ≤ n) := Lib.hid ⟨Nat.le_max_left .., by
        have h1 := best_good l q
        have h2 : mostF l.length q = min 258 (n - q) := by unfold mostF; rw [HL.out]
        unfold stepT
        omega⟩
      have HSZ := Lib.hid (step_sz l q)
      generalize stepT l q = st at HX2 HST HSZ
      obtain ⟨tk, htk⟩ : ∃ tk, tokAt l q = tk := ⟨_, rfl⟩
      rw [htk] at HTA HX2 HSZ
      have HZA := Lib.hid (fun w => size_any tk w)
      rw [HSZ.out] at HZA
      clear htk HSZ HXX
      go_wp2_with fail
      refine HTA.out.mono ?_
      rintro e w2 ⟨rfl, hb2⟩
      have hg2 := grown_of_below hb2
      have hI2 : TN w w2 l n w.heap.size q u3 D := ⟨HI.out.row.grown hg2 (by simp), World.ownsRow.kept HI.out.own hg2 (ne_noneT u3), HI.out.below.trans (hb2.mono HI.out.below.size), Nat.le_trans HI.out.size hg2.size⟩
      have HI2 := Lib.hid hI2
      clear hb2 hg2 hI2 HI HTA hsz
      have HO := Lib.hid (World.ownsRow.alloc HI2.out.own (.cells #[U8 tk.b, .int .i64 tk.l, .int .i64 tk.d] 108))
      have HB0 : RowKit.Hid (w.heap.size + 1 ≤ (w2.alloc (.cells #[U8 tk.b, .int .i64 tk.l, .int .i64 tk.d] 108)).heap.size) := Lib.hid (by have := HI2.out.size; simp; omega)
      have HD0 : RowKit.Hid (D.length ≤ 1000000) := Lib.hid (by omega)
      go_wp2_with (at_builtin; refine pushT 105 108 Tryz.underlying105 info45 (w2.alloc (.cells #[U8 tk.b, .int .i64 tk.l, .int .i64 tk.d] 108)) (w2.heap.size + 1) (by simp) rfl _ _ rfl (w.heap.size + 1) u3 D tk _ rfl rfl HO.out rfl HB0.out HD0.out ?_)
      intro v4 w4 ho4 hg4
      have hrow4 : Row w4 w2.heap.size #[U8 tk.b, .int .i64 tk.l, .int .i64 tk.d] 108 := by
        have h1 : Row (w2.alloc (.cells #[U8 tk.b, .int .i64 tk.l, .int .i64 tk.d] 108)) w2.heap.size #[U8 tk.b, .int .i64 tk.l, .int .i64 tk.d] 108 := heap_alloc_new w2 _
        refine h1.grown hg4 (fun e => ?_)
        have := (World.ownsRow.lt HI2.out.own _ e.symm).2
        omega
      obtain ⟨A4, c4, rfl⟩ := ho4.slice
      have c0 : w4.cell? ⟨w2.heap.size, 0, none⟩ = some (.int .u8 (tk.b.toNat : Int)) := hrow4.cell 0
      have c1 : w4.cell? ⟨w2.heap.size, 1, none⟩ = some (.int .i64 tk.l) := hrow4.cell 1
      have c2 : w4.cell? ⟨w2.heap.size, 2, none⟩ = some (.int .i64 tk.d) := hrow4.cell 2
      have hga : w2.grownBy w4 u3.ownBlock := (grown_any (World.grownBy_alloc w2 _ none) _).trans hg4
      have hne : some w.heap.size ≠ u3.ownBlock := fun e => by have := (World.ownsRow.lt HI2.out.own _ e.symm).1; omega
      have HI4 : RowKit.Hid (TN w w4 l n w.heap.size q (.slice A4 (D ++ [tk]).length c4) (D ++ [tk])) := Lib.hid ⟨HI2.out.row.grown hga hne, ho4, HI2.out.below.grown hga HI2.out.below.size (fun k hk => by have := (World.ownsRow.lt HI2.out.own k hk).1; omega), Nat.le_trans HI2.out.size hga.size⟩
      clear ho4 hg4 hga hne hrow4 HO HB0 HI2
      go_wp2_with fail
      refine (HZA.out w4).mono ?_
      rintro e w5 ⟨rfl, hb5⟩
      have hg5 := grown_of_below hb5
      have HI5 : RowKit.Hid (TN w w5 l n w.heap.size (q + st) (.slice A4 (D ++ [tk]).length c4) (D ++ [tk])) := Lib.hid ⟨HI4.out.row.grown hg5 (by simp), World.ownsRow.kept HI4.out.own hg5 (ne_noneT _), HI4.out.below.trans (hb5.mono HI4.out.below.size), Nat.le_trans HI4.out.size hg5.size⟩
      rw [List.length_append, List.length_singleton] at HI5
      have hst2 : q + st ≤ n := HST.out.2
      clear hb5 hg5 c0 c1 c2 HI4 HZA
      go_wp2_with fail
      go_roundw
      case rel => exact ⟨q + st, D ++ [tk], by simp, HST.out.2, by have := HST.out.1; simp; omega, HI5.out, HX2.out⟩
      case measure => have := HST.out; simp [intOf]; omega
    · obtain rfl : q = n := by omega
      have d1 : decide ((q : Int) < (q : Int)) = false := decide_eq_false (by omega)
      have HXD : RowKit.Hid (D = X) := Lib.hid (by rw [← HXX.out, Nat.sub_self]; simp [toksF])
      go_wp2_with fail
      go_ret
      exact ⟨_, rfl, by rw [← HXD.out]; exact ⟨HI.out.own.1, (HI.out.own.2.imp id (fun ⟨g, cap, cur, h1, h2, h3⟩ => ⟨g, cap, cur, h1, by omega, h3⟩))⟩, HI.out.below⟩
end Go.Proofs.YtpnnlhegncbfaaaGreatDoor
namespace Go.Proofs.YtpnnlhegncbfaaaGreatDoor
set_option maxRecDepth 20000
open Go.RowKit

/-- Bytes that were just laid in a block of their own read as their list. -/
theorem Rd.laid (w : World) (cs : Array Value) (fr : Nat × Nat) (l : List UInt8) (n : Nat) (h : cs.toList = us l) (hn : l.length = n) :
    Rd (w.alloc (.cells cs 5 fr)) (w.alloc (.cells cs 5 fr)).heap.size (some ⟨w.heap.size, 0, none⟩) n (us l) := by
  refine ⟨by rw [us_length, hn], fun _ => ⟨w.heap.size, 0, rfl, by simp, fun j u hu => ?_⟩⟩
  have hc : ∀ j u, cs.toList[j]? = some u → (w.alloc (.cells cs 5 fr)).cell? ((⟨w.heap.size, 0, none⟩ : Addr).add j) = some u := World.news_of_block (fr := fr) (by exact heap_alloc_new w _)
  have := hc j u (by rw [h]; exact hu)
  rw [Go.WideShapes.add_plain] at this
  exact this
end Go.Proofs.YtpnnlhegncbfaaaGreatDoor
namespace Go.Proofs.YtpnnlhegncbfaaaGreatDoor
set_option maxRecDepth 20000
open Go.RowKit

def formed (t : Tk) : Bool := if t.l = 0 then decide (t.d = 0) else decide (3 ≤ t.l ∧ t.l ≤ 258 ∧ t.d ≠ 0 ∧ t.b = 0)
/-- Why a token can't stand behind n bytes: an error's number. -/
def refuse (t : Tk) (n : Nat) : Nat :=
  if formed t = false then 2 else if 0 < t.l ∧ (t.d < 1 ∨ 32768 < t.d ∨ (n : Int) < t.d) then 1 else if 1048576 < (n : Int) + szI t.l then 3 else 0
/-- k bytes from so far back. -/
def copyN (d : Nat) : Nat → List UInt8 → List UInt8
  | 0, o => o
  | k + 1, o => copyN d k (o ++ [o.getD (o.length - d) 0])
def putT (t : Tk) (o : List UInt8) : List UInt8 := if t.l = 0 then o ++ [t.b] else copyN t.d.toNat t.l.toNat o
def untokF : List Tk → List UInt8 → Except Nat (List UInt8)
  | [], o => .ok o
  | t :: r, o => if refuse t o.length = 0 then untokF r (putT t o) else .error (refuse t o.length)
theorem copyN_length (d : Nat) : ∀ k o, (copyN d k o).length = o.length + k
  | 0, o => by simp [copyN]
  | k + 1, o => by rw [copyN, copyN_length d k]; simp; omega
theorem b_zero (b : UInt8) : (((b.toNat : Int) == 0) = decide (b = 0)) := by
  by_cases h : b = 0
  · subst h; rfl
  · rw [decide_eq_false h, beq_eq_false_iff_ne]
    intro e
    exact h (UInt8.toNat_inj.1 (by rw [show (0 : UInt8).toNat = 0 from rfl]; omega))
theorem isForm_false {t : Tk} (h : formed t = true) : t.l = 0 ∨ (3 ≤ t.l ∧ t.l ≤ 258) := by
  unfold formed at h
  split at h
  · exact .inl (by assumption)
  · have := of_decide_eq_true h
    exact .inr ⟨this.1, this.2.1⟩
end Go.Proofs.YtpnnlhegncbfaaaGreatDoor
