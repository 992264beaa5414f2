
/- A writer by its list of bits; contracts of NewWriter, Put, Code, Align, Bytes, Len, Text; the laws' fixed fact. -/
import Derived.Test.YtnadnokjhinmcaaWrt
import Derived.Test.YtnadnokjhinmcaaSm2
namespace Go.Proofs.Ytnadnokjhinmcaa
open Go.RowKit

/-- The k lowest bytes of a number. -/
def bytesN : Nat → Nat → List UInt8
  | _, 0 => []
  | N, k + 1 => UInt8.ofNat (N % 256) :: bytesN (N / 256) k
theorem bytesN_length (N k : Nat) : (bytesN N k).length = k := by
  induction k generalizing N with
  | zero => rfl
  | succ k ih => simp [bytesN, ih]
theorem numL_bytesN (N k : Nat) (h : N < 2 ^ (8 * k)) : numL (bytesN N k) = N := by
  induction k generalizing N with
  | zero => simp at h; subst h; rfl
  | succ k ih =>
    have h1 : N / 256 < 2 ^ (8 * k) := by
      rw [Nat.div_lt_iff_lt_mul (by decide)]
      rw [show 8 * (k + 1) = 8 * k + 8 by omega, Nat.pow_add] at h
      exact h
    simp only [bytesN, numL, ih _ h1, UInt8.toNat_ofNat']
    omega
/-- The bytes of bits. -/
def textB (m : List UInt8) : List UInt8 := bytesN (numB m) ((m.length + 7) / 8)
theorem textB_length (m : List UInt8) : (textB m).length = (m.length + 7) / 8 := bytesN_length _ _
theorem numL_textB {m : List UInt8} (h : Bin m) : numL (textB m) = numB m :=
  numL_bytesN _ _ (Nat.lt_of_lt_of_le (numB_lt h) (Nat.pow_le_pow_right (by decide) (by omega)))
theorem textB_eq {m t : List UInt8} (h : Bin m) (hl : t.length = (m.length + 7) / 8) (hn : numL t = numB m) : t = textB m :=
  numL_inj _ _ (by rw [hl, textB_length]) (by rw [hn, numL_textB h])

/-- Block g holds a writer that has these bits. -/
structure WM (w : World) (B g : Nat) (v : Value) (m : List UInt8) : Prop where
  wr : Wr w B g v (textB m) (8 * (textB m).length - m.length)
  bin : Bin m
theorem WM.ws {w : World} {B g : Nat} {v : Value} {m : List UInt8} (h : WM w B g v m) : WS w B g v (numB m) m.length :=
  ⟨textB m, h.wr, numL_textB h.bin, textB_length m, numB_lt h.bin⟩
theorem WS.wm {w : World} {B g : Nat} {v : Value} {N L : Nat} {m : List UInt8} (h : WS w B g v N L) (hb : Bin m) (hN : N = numB m) (hL : L = m.length) : WM w B g v m := by
  obtain ⟨t, h1, h2, h3, _⟩ := h
  subst hN hL
  have := textB_eq hb h3 h2
  subst this
  exact ⟨h1, hb⟩
theorem WM.more {w : World} {B g : Nat} {v : Value} {m b : List UInt8} (h : WS w B g v (numB m + numB b * 2 ^ m.length) (m.length + b.length)) (hm : Bin m) (hb : Bin b) : WM w B g v (m ++ b) :=
  h.wm (hm.append hb) (by rw [numB_append, Nat.mul_comm]) (by simp)
theorem WM.kept {w w' : World} {B g : Nat} {v : Value} {m : List UInt8} (h : WM w B g v m) {r : Option Nat} (hg : w.grownBy w' r) (h1 : some g ≠ r) (h2 : v.ownBlock = none ∨ v.ownBlock ≠ r) : WM w' B g v m :=
  ⟨⟨h.wr.row.grown hg h1, World.ownsRow.kept h.wr.own hg h2, h.wr.apart⟩, h.bin⟩
theorem ne_none (v : Value) : v.ownBlock = none ∨ v.ownBlock ≠ none := by cases v.ownBlock <;> simp
theorem WM.still {w w' : World} {B g : Nat} {v : Value} {m : List UInt8} (h : WM w B g v m) (hb : Below w.heap.size w w') : WM w' B g v m := h.kept (grown_of_below hb) (by simp) (ne_none v)

/-- May x be written in n bits? -/
def okP (x : Nat) (n : Int) : Bool := decide (0 ≤ n ∧ n ≤ 32 ∧ x < 2 ^ n.toNat)
def putE (x : Nat) (n : Int) : Nat := if okP x n = true then 0 else 1
/-- The bits that are written. -/
def putB (high : Bool) (x : Nat) (n : Int) : List UInt8 := if okP x n = true then (if high = true then (lowB x n.toNat).reverse else lowB x n.toNat) else []
theorem putB_no {high : Bool} {x : Nat} {n : Int} (h : okP x n = false) : putB high x n = [] := by simp [putB, h]
theorem putB_low {x : Nat} {n : Int} (h : okP x n = true) : putB false x n = lowB x n.toNat := by simp [putB, h]
theorem putB_high {x : Nat} {n : Int} (h : okP x n = true) : putB true x n = (lowB x n.toNat).reverse := by simp [putB, h]
theorem putE_no {x : Nat} {n : Int} (h : okP x n = false) : putE x n = 1 := by simp [putE, h]
theorem putE_ok {x : Nat} {n : Int} (h : okP x n = true) : putE x n = 0 := by simp [putE, h]
theorem bin_putB (high : Bool) (x : Nat) (n : Int) : Bin (putB high x n) := by
  unfold putB
  split
  · split
    · exact bin_rev (bin_lowB _ _)
    · exact bin_lowB _ _
  · exact Bin.nil
theorem putB_length_le (high : Bool) (x : Nat) (n : Int) : (putB high x n).length ≤ 32 := by
  unfold putB
  split
  · rename_i h
    have h := of_decide_eq_true h
    split <;> simp [lowB_length] <;> omega
  · simp

set_option maxHeartbeats 400000 in
theorem newWriter_any (w : World) : Calls Try.prog 40 #[] w fun e w' => e = .returned (.pointer (some ⟨w.heap.size, 0, none⟩)) ∧ WM w' w.heap.size w.heap.size (.slice none 0 0) [] ∧ w.grownBy w' none := by
  have hb : Try.prog.built 89 [] = some #[.slice none 0 0, .int .i64 0] := by kernel_rfl
  have HW := Lib.hid (show WM (w.alloc (.cells #[.slice none 0 0, .int .i64 0] 89)) w.heap.size w.heap.size (.slice none 0 0) [] from ⟨⟨Row.new w _ _, Own.nil _ _, by simp [Value.ownBlock]⟩, Bin.nil⟩)
  have HG := Lib.hid (World.grownBy_alloc w (.cells #[.slice none 0 0, .int .i64 0] 89) none)
  go_enter Try.func40, Try.ntmps40
  go_wp2_with fail
  go_ret
  exact ⟨rfl, HW.out, HG.out⟩

set_option maxHeartbeats 400000 in
theorem code_any (B g x : Nat) (n : Int) (m : List UInt8) (v : Value) (w : World) (hW : WM w B g v m) (hB : B ≤ w.heap.size) (hx : x < 4294967296) (hL : m.length ≤ 7000000) :
    Calls Try.prog 70 #[.pointer (some ⟨g, 0, none⟩), .int .u32 (x : Int), .int .i64 n] w fun e w' => e = .returned (errV (putE x n)) ∧ ∃ v', WM w' B g v' (m ++ putB true x n) ∧ St w g v w' v' := by
  have HW := Lib.hid hW
  clear hW
  by_cases hok : okP x n = true
  · have h := of_decide_eq_true hok
    obtain ⟨k, rfl⟩ : ∃ k : Nat, n = (k : Int) := ⟨n.toNat, by omega⟩
    rw [putE_ok hok, putB_high hok]
    simp only [Int.toNat_natCast] at h ⊢
    have HX := Lib.hid h.2.2
    have hk : k ≤ 32 := by omega
    clear h hok
    go_enter Try.func70, Try.ntmps70
    go_wp2_with fail
    refine (refusal_ok ⟨g, 0, none⟩ x k w hk HX.out).mono ?_
    rintro e w1 ⟨rfl, rfl⟩
    rw [show errV 0 = .nilIface from rfl]
    go_wp2_with fail
    refine (turned_any x k w1 hk hx).mono ?_
    rintro e w2 ⟨rfl, rfl⟩
    go_wp2_with fail
    refine (write_any B g _ _ (turn 0 x k) k v w2 HW.out.ws hB (turn_lt x k) hk hL).mono ?_
    rintro e w3 ⟨rfl, v', hW2, hS2⟩
    have HW2 := Lib.hid hW2
    have HS2 := Lib.hid hS2
    clear hW2 hS2
    go_wp2_with fail
    go_ret
    refine ⟨rfl, v', WM.more ?_ HW.out.bin (bin_rev (bin_lowB x k)), HS2.out⟩
    rw [← turn_rev, List.length_reverse, lowB_length]
    exact HW2.out
  · have hno : okP x n = false := by simpa using hok
    rw [putE_no hno, putB_no hno, List.append_nil]
    have hr : Calls Try.prog 71 #[.pointer (some ⟨g, 0, none⟩), .int .u32 (x : Int), .int .i64 n] w fun e w' => e = .returned (errV 1) ∧ w' = w := by
      by_cases h1 : n < 0 ∨ 32 < n
      · exact refusal_out _ _ _ _ h1
      · obtain ⟨k, rfl⟩ : ∃ k : Nat, n = (k : Int) := ⟨n.toNat, by omega⟩
        refine refusal_no _ _ _ _ (by omega) ?_
        unfold okP at hno
        have := of_decide_eq_false hno
        simp only [Int.toNat_natCast] at this
        omega
    have HR := Lib.hid hr
    clear hr hno hok
    go_enter Try.func70, Try.ntmps70
    go_wp2_with fail
    refine HR.out.mono ?_
    rintro e w1 ⟨rfl, rfl⟩
    rw [show errV 1 = .iface 51 (.int .i64 1) from rfl]
    go_wp2_with fail
    go_ret
    exact ⟨rfl, v, HW.out, St.refl _ _ _⟩

/-- How many bits 0 make whole bytes. -/
def gap (L : Nat) : Nat := (8 - L % 8) % 8
theorem WM.room {w : World} {B g : Nat} {v : Value} {m : List UInt8} (h : WM w B g v m) : Wr w B g v (textB m) (gap m.length) := by
  have e : 8 * (textB m).length - m.length = gap m.length := by rw [textB_length]; unfold gap; omega
  rw [← e]; exact h.wr
theorem bin_zeros (k : Nat) : Bin (List.replicate k 0) := fun b hb => by
  rw [List.eq_of_mem_replicate hb]; decide
theorem numB_zeros (k : Nat) : numB (List.replicate k 0) = 0 := by
  induction k with
  | zero => rfl
  | succ k ih => simp [List.replicate_succ, numB, ih]
theorem text_zeros {m : List UInt8} (h : Bin m) : textB (m ++ List.replicate (gap m.length) 0) = textB m := by
  refine (textB_eq (h.append (bin_zeros _)) ?_ ?_).symm
  · rw [textB_length, List.length_append, List.length_replicate]; unfold gap; omega
  · rw [numL_textB h, numB_append, numB_zeros, Nat.mul_zero, Nat.add_zero]

set_option maxHeartbeats 400000 in
theorem wtext_any (B g : Nat) (m : List UInt8) (v : Value) (w : World) (hW : WM w B g v m) (hL : m.length ≤ 7000000) :
    Calls Try.prog 42 #[.pointer (some ⟨g, 0, none⟩)] w fun e w' => ∃ u, e = .returned u ∧ Own w' w.heap.size u (textB m) ∧ w.grownBy w' none := by
  have ho := hW.wr.own
  have hA0 : ∀ A n c, v = .slice A n c → A = none → c = 0 := by
    intro A n c hv hA
    rcases ho.2 with ⟨h1, _⟩ | ⟨g', cap, cur, h1, _⟩
    · rw [hv] at h1; injection h1
    · rw [hv] at h1; injection h1 with h2; rw [hA] at h2; cases h2
  obtain ⟨A, c, rfl⟩ := ho.slice
  have hc0 := hW.wr.cell0
  have HC := Lib.hid (clone_any A (textB m).length c (textB m) w ho.rd.2 (hA0 A _ c rfl) (by rw [textB_length]; omega))
  clear ho hA0 hW
  go_enter Try.func42, Try.ntmps42
  go_wp2_with fail
  refine HC.out.mono ?_
  rintro e w1 ⟨u, rfl, ho, hg⟩
  have HO := Lib.hid ho
  have HG := Lib.hid hg
  clear ho hg
  go_wp2_with fail
  go_ret
  exact ⟨u, rfl, HO.out, HG.out⟩

end Go.Proofs.Ytnadnokjhinmcaa
