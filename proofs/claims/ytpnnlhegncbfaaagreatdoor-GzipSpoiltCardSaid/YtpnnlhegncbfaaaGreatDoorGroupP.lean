
/- Contracts of what is small: Num, Is, Bytes of crossdocknum; the calls of nil; refusal; turnedRound; slices.Clone. -/

/- A writer by its list of bits; contracts of NewWriter, Put, Code, Align, Bytes, Len, Text; the laws' fixed fact. -/

/- Contracts of a writer's Put, Align and Bytes. -/
import Derived.Test.YtpnnlhegncbfaaaGreatDoorGroupA
import Derived.Test.YtpnnlhegncbfaaaGreatDoorGroupO
namespace Go.Proofs.YtpnnlhegncbfaaaGreatDoor
set_option maxRecDepth 20000
open Go.RowKit

set_option maxHeartbeats 400000 in
theorem refusal_out (p : Addr) (x n : Int) (w : World) (h : n < 0 ∨ 32 < n) : Calls Tryz.prog 101 #[.pointer (some p), .int .u32 x, .int .i64 n] w fun e w' => e = .returned (errV 1) ∧ w' = w := by
  rcases h with h | h
  · have h1 : decide (n < 0) = true := decide_eq_true h
    go_enter Tryz.func101, Tryz.ntmps101
    go_wp2_with fail
    go_ret
    exact ⟨rfl, rfl⟩
  · have h1 : decide (n < 0) = false := decide_eq_false (by omega)
    have h2 : decide (32 < n) = true := decide_eq_true h
    go_enter Tryz.func101, Tryz.ntmps101
    go_wp2_with fail
    go_ret
    exact ⟨rfl, rfl⟩
set_option maxHeartbeats 400000 in
theorem refusal_ok (p : Addr) (x n : Nat) (w : World) (h : n ≤ 32) (hxn : x < 2 ^ n) : Calls Tryz.prog 101 #[.pointer (some p), .int .u32 (x : Int), .int .i64 (n : Int)] w fun e w' => e = .returned (errV 0) ∧ w' = w := by
  have h1 : decide ((n : Int) < 0) = false := decide_eq_false (by omega)
  have h2 : decide (32 < (n : Int)) = false := decide_eq_false (by omega)
  have h3 : ((x : Int) / 2 ^ n != 0) = false := by
    rw [bne_eq_false_iff_eq]
    have := Nat.div_eq_of_lt hxn
    exact_mod_cast this
  clear hxn
  go_enter Tryz.func101, Tryz.ntmps101
  go_wp2_with fail
  go_ret
  exact ⟨rfl, rfl⟩
set_option maxHeartbeats 400000 in
theorem refusal_no (p : Addr) (x n : Nat) (w : World) (h : n ≤ 32) (hxn : 2 ^ n ≤ x) : Calls Tryz.prog 101 #[.pointer (some p), .int .u32 (x : Int), .int .i64 (n : Int)] w fun e w' => e = .returned (errV 1) ∧ w' = w := by
  have h1 : decide ((n : Int) < 0) = false := decide_eq_false (by omega)
  have h2 : decide (32 < (n : Int)) = false := decide_eq_false (by omega)
  have h3 : ((x : Int) / 2 ^ n != 0) = true := by
    rw [bne_iff_ne]
    have := Nat.div_pos hxn (Nat.two_pow_pos n)
    have h4 : x / 2 ^ n ≠ 0 := by omega
    exact_mod_cast h4
  clear hxn
  go_enter Tryz.func101, Tryz.ntmps101
  go_wp2_with fail
  go_ret
  exact ⟨rfl, rfl⟩

set_option maxHeartbeats 400000 in
theorem turned_any (x n : Nat) (w : World) (h : n ≤ 32) (hx : x < 4294967296) : Calls Tryz.prog 106 #[.int .u32 (x : Int), .int .i64 (n : Int)] w fun e w' => e = .returned (.int .u32 (turn 0 x n : Int)) ∧ w' = w := by
  have HX := Lib.hid hx
  clear hx
  go_enter Tryz.func106, Tryz.ntmps106
  go_wp2_with fail
  go_loopw [0, 5, 7] (fun xv t i wr => ∃ k : Nat, k ≤ n ∧ xv = .int .u32 ((x / 2 ^ k : Nat) : Int) ∧ t = .int .u32 ((turn 0 x k : Nat) : Int) ∧ i = .int .i64 k ∧ wr = w) (fun _ _ i _ => n - (intOf i).toNat)
  case atStart => exact ⟨0, by omega, by simp, rfl, rfl, rfl⟩
  case round =>
    obtain ⟨k, hk, rfl, rfl, rfl, rfl⟩ := hrel
    by_cases hlt : k < n
    · have hdk : decide ((k : Int) < (n : Int)) = true := decide_eq_true (by omega)
      have hT : turn 0 x k < 2147483648 := Nat.lt_of_lt_of_le (turn_lt x k) (by
        have := Nat.pow_le_pow_right (show 0 < 2 by decide) (show k ≤ 31 by omega)
        omega)
      have HS : RowKit.Hid (turn 0 x (k + 1) = 2 * turn 0 x k + x / 2 ^ k % 2) := Lib.hid (turn_snoc 0 x k)
      have HD : RowKit.Hid (x / 2 ^ (k + 1) = x / 2 ^ k / 2) := Lib.hid (by rw [Nat.pow_succ, Nat.div_div_eq_div_mul])
      have hX : x / 2 ^ k < 4294967296 := Nat.lt_of_le_of_lt (Nat.div_le_self _ _) HX.out
      generalize turn 0 x k = T at hT HS ⊢
      generalize x / 2 ^ k = X at hX HS HD ⊢
      have e1 := odd32 X hX
      have e2 := or32 T X hT
      go_wp2_with fail
      go_roundw
      case rel =>
        exact ⟨k + 1, by omega, by rw [HD.out]; simp, by rw [HS.out]; simp, by simp, trivial⟩
      case measure => simp [intOf]; omega
    · have hkn : k = n := by omega
      subst hkn
      have hdk : decide ((k : Int) < (k : Int)) = false := decide_eq_false (by omega)
      go_wp2_with fail
      go_ret
      exact ⟨rfl, rfl⟩

end Go.Proofs.YtpnnlhegncbfaaaGreatDoor
namespace Go.Proofs.YtpnnlhegncbfaaaGreatDoor
set_option maxRecDepth 20000
open Go.RowKit

/-- The k lowest bytes of a number. -/
def bytesN : Nat → Nat → List UInt8
  | _, 0 => []
  | N, k + 1 => UInt8.ofNat (N % 256) :: bytesN (N / 256) k
theorem bytesN_length (N k : Nat) : (bytesN N k).length = k := by
  induction k generalizing N with
  | zero => rfl
  | succ k ih => simp [bytesN, ih]
theorem numL_bytesN (N k : Nat) (h : N < 2 ^ (8 * k)) : numL (bytesN N k) = N := by
  induction k generalizing N with
  | zero => simp at h; subst h; rfl
  | succ k ih =>
    have h1 : N / 256 < 2 ^ (8 * k) := by
      rw [Nat.div_lt_iff_lt_mul (by decide)]
      rw [show 8 * (k + 1) = 8 * k + 8 by omega, Nat.pow_add] at h
      exact h
    simp only [bytesN, numL, ih _ h1, UInt8.toNat_ofNat']
    omega
/-- The bytes of bits. -/
def textB (m : List UInt8) : List UInt8 := bytesN (numB m) ((m.length + 7) / 8)
theorem textB_length (m : List UInt8) : (textB m).length = (m.length + 7) / 8 := bytesN_length _ _
theorem numL_textB {m : List UInt8} (h : Bin m) : numL (textB m) = numB m :=
  numL_bytesN _ _ (Nat.lt_of_lt_of_le (numB_lt h) (Nat.pow_le_pow_right (by decide) (by omega)))
theorem textB_eq {m t : List UInt8} (h : Bin m) (hl : t.length = (m.length + 7) / 8) (hn : numL t = numB m) : t = textB m :=
  numL_inj _ _ (by rw [hl, textB_length]) (by rw [hn, numL_textB h])

/-- Block g holds a writer that has these bits. -/
structure WM (w : World) (B g : Nat) (v : Value) (m : List UInt8) : Prop where
  wr : Wr w B g v (textB m) (8 * (textB m).length - m.length)
  bin : Bin m
theorem WM.ws {w : World} {B g : Nat} {v : Value} {m : List UInt8} (h : WM w B g v m) : WS w B g v (numB m) m.length :=
  ⟨textB m, h.wr, numL_textB h.bin, textB_length m, numB_lt h.bin⟩
theorem WS.wm {w : World} {B g : Nat} {v : Value} {N L : Nat} {m : List UInt8} (h : WS w B g v N L) (hb : Bin m) (hN : N = numB m) (hL : L = m.length) : WM w B g v m := by
  obtain ⟨t, h1, h2, h3, _⟩ := h
  subst hN hL
  have := textB_eq hb h3 h2
  subst this
  exact ⟨h1, hb⟩
theorem WM.more {w : World} {B g : Nat} {v : Value} {m b : List UInt8} (h : WS w B g v (numB m + numB b * 2 ^ m.length) (m.length + b.length)) (hm : Bin m) (hb : Bin b) : WM w B g v (m ++ b) :=
  h.wm (hm.append hb) (by rw [numB_append, Nat.mul_comm]) (by simp)
theorem WM.kept {w w' : World} {B g : Nat} {v : Value} {m : List UInt8} (h : WM w B g v m) {r : Option Nat} (hg : w.grownBy w' r) (h1 : some g ≠ r) (h2 : v.ownBlock = none ∨ v.ownBlock ≠ r) : WM w' B g v m :=
  ⟨⟨h.wr.row.grown hg h1, World.ownsRow.kept h.wr.own hg h2, h.wr.apart⟩, h.bin⟩
theorem ne_none (v : Value) : v.ownBlock = none ∨ v.ownBlock ≠ none := by cases v.ownBlock <;> simp
theorem WM.still {w w' : World} {B g : Nat} {v : Value} {m : List UInt8} (h : WM w B g v m) (hb : Below w.heap.size w w') : WM w' B g v m := h.kept (grown_of_below hb) (by simp) (ne_none v)

/-- May x be written in n bits? -/
def okP (x : Nat) (n : Int) : Bool := decide (0 ≤ n ∧ n ≤ 32 ∧ x < 2 ^ n.toNat)
def putE (x : Nat) (n : Int) : Nat := if okP x n = true then 0 else 1
/-- The bits that are written. -/
def putB (high : Bool) (x : Nat) (n : Int) : List UInt8 := if okP x n = true then (if high = true then (lowB x n.toNat).reverse else lowB x n.toNat) else []
theorem putB_no {high : Bool} {x : Nat} {n : Int} (h : okP x n = false) : putB high x n = [] := by simp [putB, h]
theorem putB_low {x : Nat} {n : Int} (h : okP x n = true) : putB false x n = lowB x n.toNat := by simp [putB, h]
theorem putB_high {x : Nat} {n : Int} (h : okP x n = true) : putB true x n = (lowB x n.toNat).reverse := by simp [putB, h]
theorem putE_no {x : Nat} {n : Int} (h : okP x n = false) : putE x n = 1 := by simp [putE, h]
theorem putE_ok {x : Nat} {n : Int} (h : okP x n = true) : putE x n = 0 := by simp [putE, h]
theorem bin_putB (high : Bool) (x : Nat) (n : Int) : Bin (putB high x n) := by
  unfold putB
  split
  · split
    · exact bin_rev (bin_lowB _ _)
    · exact bin_lowB _ _
  · exact Bin.nil
theorem putB_length_le (high : Bool) (x : Nat) (n : Int) : (putB high x n).length ≤ 32 := by
  unfold putB
  split
  · rename_i h
    have h := of_decide_eq_true h
    split <;> simp [lowB_length] <;> omega
  · simp

set_option maxHeartbeats 400000 in
theorem newWriter_any (w : World) : Calls Tryz.prog 56 #[] w fun e w' => e = .returned (.pointer (some ⟨w.heap.size, 0, none⟩)) ∧ WM w' w.heap.size w.heap.size (.slice none 0 0) [] ∧ w.grownBy w' none := by
  have hb : Tryz.prog.built 118 [] = some #[.slice none 0 0, .int .i64 0] := by kernel_rfl
  have HW := Lib.hid (show WM (w.alloc (.cells #[.slice none 0 0, .int .i64 0] 118)) w.heap.size w.heap.size (.slice none 0 0) [] from ⟨⟨Row.new w _ _, Own.nil _ _, by simp [Value.ownBlock]⟩, Bin.nil⟩)
  have HG := Lib.hid (World.grownBy_alloc w (.cells #[.slice none 0 0, .int .i64 0] 118) none)
  go_enter Tryz.func56, Tryz.ntmps56
  go_wp2_with fail
  go_ret
  exact ⟨rfl, HW.out, HG.out⟩

set_option maxHeartbeats 400000 in
theorem code_any (B g x : Nat) (n : Int) (m : List UInt8) (v : Value) (w : World) (hW : WM w B g v m) (hB : B ≤ w.heap.size) (hx : x < 4294967296) (hL : m.length ≤ 7000000) :
    Calls Tryz.prog 97 #[.pointer (some ⟨g, 0, none⟩), .int .u32 (x : Int), .int .i64 n] w fun e w' => e = .returned (errV (putE x n)) ∧ ∃ v', WM w' B g v' (m ++ putB true x n) ∧ St w g v w' v' := by
  have HW := Lib.hid hW
  clear hW
  by_cases hok : okP x n = true
  · have h := of_decide_eq_true hok
    obtain ⟨k, rfl⟩ : ∃ k : Nat, n = (k : Int) := ⟨n.toNat, by omega⟩
    rw [putE_ok hok, putB_high hok]
    simp only [Int.toNat_natCast] at h ⊢
    have HX := Lib.hid h.2.2
    have hk : k ≤ 32 := by omega
    clear h hok
    go_enter Tryz.func97, Tryz.ntmps97
    go_wp2_with fail
    refine (refusal_ok ⟨g, 0, none⟩ x k w hk HX.out).mono ?_
    rintro e w1 ⟨rfl, rfl⟩
    rw [show errV 0 = .nilIface from rfl]
    go_wp2_with fail
    refine (turned_any x k w1 hk hx).mono ?_
    rintro e w2 ⟨rfl, rfl⟩
    go_wp2_with fail
    refine (write_any B g _ _ (turn 0 x k) k v w2 HW.out.ws hB (turn_lt x k) hk hL).mono ?_
    rintro e w3 ⟨rfl, v', hW2, hS2⟩
    have HW2 := Lib.hid hW2
    have HS2 := Lib.hid hS2
    clear hW2 hS2
    go_wp2_with fail
    go_ret
    refine ⟨rfl, v', WM.more ?_ HW.out.bin (bin_rev (bin_lowB x k)), HS2.out⟩
    rw [← turn_rev, List.length_reverse, lowB_length]
    exact HW2.out
  · have hno : okP x n = false := by simpa using hok
    rw [putE_no hno, putB_no hno, List.append_nil]
    have hr : Calls Tryz.prog 101 #[.pointer (some ⟨g, 0, none⟩), .int .u32 (x : Int), .int .i64 n] w fun e w' => e = .returned (errV 1) ∧ w' = w := by
      by_cases h1 : n < 0 ∨ 32 < n
      · exact refusal_out _ _ _ _ h1
      · obtain ⟨k, rfl⟩ : ∃ k : Nat, n = (k : Int) := ⟨n.toNat, by omega⟩
        refine refusal_no _ _ _ _ (by omega) ?_
        unfold okP at hno
        have := of_decide_eq_false hno
        simp only [Int.toNat_natCast] at this
        omega
    have HR := Lib.hid hr
    clear hr hno hok
    go_enter Tryz.func97, Tryz.ntmps97
    go_wp2_with fail
    refine HR.out.mono ?_
    rintro e w1 ⟨rfl, rfl⟩
    rw [show errV 1 = .iface 39 (.int .i64 1) from rfl]
    go_wp2_with fail
    go_ret
    exact ⟨rfl, v, HW.out, St.refl _ _ _⟩

/-- How many bits 0 make whole bytes. -/
def gap (L : Nat) : Nat := (8 - L % 8) % 8
theorem WM.room {w : World} {B g : Nat} {v : Value} {m : List UInt8} (h : WM w B g v m) : Wr w B g v (textB m) (gap m.length) := by
  have e : 8 * (textB m).length - m.length = gap m.length := by rw [textB_length]; unfold gap; omega
  rw [← e]; exact h.wr
theorem bin_zeros (k : Nat) : Bin (List.replicate k 0) := fun b hb => by
  rw [List.eq_of_mem_replicate hb]; decide
theorem numB_zeros (k : Nat) : numB (List.replicate k 0) = 0 := by
  induction k with
  | zero => rfl
  | succ k ih => simp [List.replicate_succ, numB, ih]
theorem text_zeros {m : List UInt8} (h : Bin m) : textB (m ++ List.replicate (gap m.length) 0) = textB m := by
  refine (textB_eq (h.append (bin_zeros _)) ?_ ?_).symm
  · rw [textB_length, List.length_append, List.length_replicate]; unfold gap; omega
  · rw [numL_textB h, numB_append, numB_zeros, Nat.mul_zero, Nat.add_zero]

set_option maxHeartbeats 400000 in
theorem wtext_any (B g : Nat) (m : List UInt8) (v : Value) (w : World) (hW : WM w B g v m) (hL : m.length ≤ 7000000) :
    Calls Tryz.prog 58 #[.pointer (some ⟨g, 0, none⟩)] w fun e w' => ∃ u, e = .returned u ∧ Own w' w.heap.size u (textB m) ∧ w.grownBy w' none := by
  have ho := hW.wr.own
  have hA0 : ∀ A n c, v = .slice A n c → A = none → c = 0 := by
    intro A n c hv hA
    rcases ho.2 with ⟨h1, _⟩ | ⟨g', cap, cur, h1, _⟩
    · rw [hv] at h1; injection h1
    · rw [hv] at h1; injection h1 with h2; rw [hA] at h2; cases h2
  obtain ⟨A, c, rfl⟩ := ho.slice
  have hc0 := hW.wr.cell0
  have HC := Lib.hid (clone_any A (textB m).length c (textB m) w ho.rd.2 (hA0 A _ c rfl) (by rw [textB_length]; omega))
  clear ho hA0 hW
  go_enter Tryz.func58, Tryz.ntmps58
  go_wp2_with fail
  refine HC.out.mono ?_
  rintro e w1 ⟨u, rfl, ho, hg⟩
  have HO := Lib.hid ho
  have HG := Lib.hid hg
  clear ho hg
  go_wp2_with fail
  go_ret
  exact ⟨u, rfl, HO.out, HG.out⟩

end Go.Proofs.YtpnnlhegncbfaaaGreatDoor
namespace Go.Proofs.YtpnnlhegncbfaaaGreatDoor
set_option maxRecDepth 20000
open Go.RowKit

set_option maxHeartbeats 400000 in
set_option maxRecDepth 10000 in
theorem put_any (B g x : Nat) (n : Int) (m : List UInt8) (v : Value) (w : World) (hW : WM w B g v m) (hB : B ≤ w.heap.size) (hL : m.length ≤ 7000000) :
    Calls Tryz.prog 87 #[.pointer (some ⟨g, 0, none⟩), .int .u32 (x : Int), .int .i64 n] w fun e w' => e = .returned (errV (putE x n)) ∧ ∃ v', WM w' B g v' (m ++ putB false x n) ∧ St w g v w' v' := by
  have HW := Lib.hid hW
  clear hW
  by_cases hok : okP x n = true
  · have h := of_decide_eq_true hok
    obtain ⟨k, rfl⟩ : ∃ k : Nat, n = (k : Int) := ⟨n.toNat, by omega⟩
    rw [putE_ok hok, putB_low hok]
    simp only [Int.toNat_natCast] at h ⊢
    have HX := Lib.hid h.2.2
    have hk : k ≤ 32 := by omega
    clear h hok
    go_enter Tryz.func87, Tryz.ntmps87
    go_wp2_with fail
    refine (refusal_ok ⟨g, 0, none⟩ x k w hk HX.out).mono ?_
    rintro e w1 ⟨rfl, rfl⟩
    rw [show errV 0 = .nilIface from rfl]
    go_wp2_with fail
    refine (write_any B g _ _ x k v w1 HW.out.ws hB HX.out hk hL).mono ?_
    rintro e w2 ⟨rfl, v', hW2, hS2⟩
    have HW2 := Lib.hid hW2
    have HS2 := Lib.hid hS2
    clear hW2 hS2
    go_wp2_with fail
    go_ret
    refine ⟨rfl, v', WM.more ?_ HW.out.bin (bin_lowB x k), HS2.out⟩
    rw [numB_lowB, lowB_length, Nat.mod_eq_of_lt HX.out]
    exact HW2.out
  · have hno : okP x n = false := by simpa using hok
    rw [putE_no hno, putB_no hno, List.append_nil]
    have hr : Calls Tryz.prog 101 #[.pointer (some ⟨g, 0, none⟩), .int .u32 (x : Int), .int .i64 n] w fun e w' => e = .returned (errV 1) ∧ w' = w := by
      by_cases h1 : n < 0 ∨ 32 < n
      · exact refusal_out _ _ _ _ h1
      · obtain ⟨k, rfl⟩ : ∃ k : Nat, n = (k : Int) := ⟨n.toNat, by omega⟩
        refine refusal_no _ _ _ _ (by omega) ?_
        unfold okP at hno
        have := of_decide_eq_false hno
        simp only [Int.toNat_natCast] at this
        omega
    have HR := Lib.hid hr
    clear hr hno hok
    go_enter Tryz.func87, Tryz.ntmps87
    go_wp2_with fail
    refine HR.out.mono ?_
    rintro e w1 ⟨rfl, rfl⟩
    rw [show errV 1 = .iface 39 (.int .i64 1) from rfl]
    go_wp2_with fail
    go_ret
    exact ⟨rfl, v, HW.out, St.refl _ _ _⟩
set_option maxHeartbeats 400000 in
set_option maxRecDepth 10000 in
theorem walign_any (B g : Nat) (m : List UInt8) (v : Value) (w : World) (hW : WM w B g v m) :
    Calls Tryz.prog 70 #[.pointer (some ⟨g, 0, none⟩)] w fun e w' => e = .returned (.int .i64 (gap m.length : Int)) ∧ WM w' B g v (m ++ List.replicate (gap m.length) 0) ∧ St w g v w' v := by
  have hr := hW.room
  have hc1 := hr.cell1
  have hf1 := hr.row.thawed 1
  have HW2 := Lib.hid (show WM (w.setCell ⟨g, 1, none⟩ (.int .i64 0)) B g v (m ++ List.replicate (gap m.length) 0) from ⟨by
    rw [text_zeros hW.bin]
    refine hr.set1 _ 0 ?_
    rw [textB_length, List.length_append, List.length_replicate]
    unfold gap
    omega, hW.bin.append (bin_zeros _)⟩)
  have HS := Lib.hid (St.ofRow (v := v) (grown_setCell w g 1 (.int .i64 0)))
  clear hr hW
  generalize gap m.length = r at hc1 HW2 ⊢
  go_enter Tryz.func70, Tryz.ntmps70
  go_wp2_with fail
  go_ret
  exact ⟨rfl, HW2.out, HS.out⟩
/-- Bytes behind whole bytes. -/
theorem text_bytes {m : List UInt8} (h : Bin m) (h8 : m.length % 8 = 0) (b : List UInt8) : textB m ++ b = textB (m ++ bitsL b) := by
  refine textB_eq (h.append (bin_bitsL b)) ?_ ?_
  · rw [List.length_append, textB_length, List.length_append, bitsL_length]; omega
  · rw [numL_append, numL_textB h, textB_length, numB_append, numB_bitsL, show 8 * ((m.length + 7) / 8) = m.length by omega]
set_option maxHeartbeats 400000 in
set_option maxRecDepth 10000 in
theorem wbytes_form (B g : Nat) (m : List UInt8) (v b : Value) (w : World) (hW : WM w B g v m) (h8 : m.length % 8 ≠ 0) :
    Calls Tryz.prog 72 #[.pointer (some ⟨g, 0, none⟩), b] w fun e w' => e = .returned (errV 2) ∧ w' = w := by
  have hr := hW.room
  have hc1 := hr.cell1
  have hg : gap m.length ≠ 0 := by unfold gap; omega
  clear hr hW h8
  generalize gap m.length = r at hc1 hg
  have hz : ((r : Int) != 0) = true := by rw [bne_iff_ne]; omega
  go_enter Tryz.func72, Tryz.ntmps72
  go_wp2_with fail
  go_ret
  exact ⟨rfl, rfl⟩
set_option maxHeartbeats 400000 in
set_option maxRecDepth 10000 in
theorem wbytes_any (B g : Nat) (m : List UInt8) (v : Value) (A : Option Addr) (n c : Nat) (l : List UInt8) (w : World) (hW : WM w B g v m) (hB : B ≤ w.heap.size) (hr : Rd w w.heap.size A n (us l)) (hA : A = none → c = 0) (h8 : m.length % 8 = 0) (hL : m.length ≤ 7000000) (hn : n ≤ 100000) :
    Calls Tryz.prog 72 #[.pointer (some ⟨g, 0, none⟩), .slice A n c] w fun e w' => e = .returned (errV 0) ∧ ∃ v', WM w' B g v' (m ++ bitsL l) ∧ St w g v w' v' := by
  have hl : l.length = n := by have := hr.1; rwa [us_length] at this
  have hrm := hW.room
  have hg : gap m.length = 0 := by unfold gap; omega
  rw [hg] at hrm
  have hc0 := hrm.cell0
  have hc1 := hrm.cell1
  have hz : (((0 : Nat) : Int) != 0) = false := rfl
  have hTb : (textB m).length ≤ 875001 := by rw [textB_length]; omega
  obtain ⟨A0, c0, rfl⟩ := hrm.own.slice
  have HW := Lib.hid hW
  have HR := Lib.hid hr
  have HRM := Lib.hid hrm
  have HA := Lib.hid hA
  have H8 := Lib.hid h8
  have HT := Lib.hid hTb
  clear hW hr hrm hA h8 hg hTb
  go_enter Tryz.func72, Tryz.ntmps72
  go_wp2_with (at_builtin; refine cat8 w rfl (.tmp 20) (.tmp 21) rfl B w.heap.size _ (textB m) l A n c rfl rfl HRM.out.own HR.out HA.out hB (by have := HT.out; omega) ?_)
  intro v1 w1 ho hg hf
  rw [text_bytes HW.out.bin H8.out] at ho
  have hrow := HRM.out.row.grown hg (Ne.symm HRM.out.apart)
  have hap : v1.ownBlock ≠ some g := hf.not HRM.out.row.lt HRM.out.apart
  have hf0 := hrow.thawed 0
  have hd0 := hrow.cell 0
  obtain ⟨A1, c1, hv1⟩ := ho.slice
  obtain ⟨n1, hn1⟩ : ∃ n1, (textB (m ++ bitsL l)).length = n1 := ⟨_, rfl⟩
  rw [hn1] at hv1
  subst hv1
  have HF := Lib.hid (And.intro (Wr.set0 hrow ho hap) ((St.ofOwn (g := g) hg hf).trans (St.ofRow (v := .slice A1 n1 c1) (grown_setCell w1 g 0 (.slice A1 n1 c1)))))
  clear ho hg hf hrow hap hn1
  go_wp2_with fail
  go_ret
  refine ⟨rfl, _, ⟨?_, HW.out.bin.append (bin_bitsL l)⟩, HF.out.2⟩
  have e : 8 * (textB (m ++ bitsL l)).length - (m ++ bitsL l).length = 0 := by
    have := H8.out
    rw [textB_length, List.length_append, bitsL_length]; omega
  rw [e]
  exact HF.out.1
end Go.Proofs.YtpnnlhegncbfaaaGreatDoor
