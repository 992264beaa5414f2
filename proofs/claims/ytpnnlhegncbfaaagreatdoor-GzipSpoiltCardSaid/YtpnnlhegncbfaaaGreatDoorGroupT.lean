
/- Contract of deflate's Untokens. -/

/- Contracts of the packer's small methods: number, sign, begin. -/

/- What letters and signs a match is told by, as plain functions: by its highest bit, and by the last one that fits. -/
import Derived.Test.YtpnnlhegncbfaaaGreatDoorGroupS
import Derived.Test.YtpnnlhegncbfaaaGreatDoorGroupP
import Derived.Test.YtpnnlhegncbfaaaGreatDoorGroupQ
import Derived.StillTailTactics
import Derived.Test.YtpnnlhegncbfaaaGreatDoorGroupC
import Derived.Test.YtpnnlhegncbfaaaGreatDoorGroupG
namespace Go.Proofs.YtpnnlhegncbfaaaGreatDoor
set_option maxRecDepth 20000
open Go.RowKit

theorem untokF_append : ∀ (a b : List Tk) (o o' : List UInt8), untokF a o = .ok o' → untokF (a ++ b) o = untokF b o'
  | [], b, o, o', h => by injection h with h; subst h; rfl
  | t :: a, b, o, o', h => by
    unfold untokF at h
    rw [List.cons_append, untokF]
    split at h
    · rename_i h0
      rw [if_pos h0]
      exact untokF_append a b _ _ h
    · cases h
/-- push8, the new row's place by its number. -/
theorem push8H {ops : Array Oper} {rest : List Oper} {o : Oper} {a : Act} {Q : Exit → Act → World → Prop} (H : Nat) (w0 : World) (hH : w0.heap.size = H) (hgd : o.guard = none) (s x : Operand)
    (ho : o.op = .call { callee := .builtin .append, args := #[s, x], argTypes := #[22, 22] })
    (B : Nat) (v : Value) (l bs : List UInt8) (cs : Array Value) (m : Nat) (hs : a.eval s = v) (hx : a.eval x = .slice (some ⟨H, 0, none⟩) m m)
    (hown : Own w0 B v l) (hcs : cs.toList = us bs) (hm : bs.length = m) (hB : B ≤ w0.heap.size) (hl : l.length + m ≤ 1000000)
    (h : ∀ v' w', Own w' B v' (l ++ bs) → w0.grownBy w' v.ownBlock → Fresh w0 v v' → wpList Tryz.prog ops Q rest (a.put o.dst v') w') :
    wpList Tryz.prog ops Q (o :: rest) a (w0.alloc (.cells cs 5)) := by
  subst hH
  exact push8 w0 hgd s x ho B v l bs cs m hs hx hown hcs hm hB hl h
theorem copyN_more (d k : Nat) (o : List UInt8) : copyN d (k + 1) o = copyN d k (o ++ [o.getD (o.length - d) 0]) := rfl
theorem refuse_ok {t : Tk} {n : Nat} (h : refuse t n = 0) (hl : t.l ≠ 0) : 3 ≤ t.l ∧ t.l ≤ 258 ∧ 1 ≤ t.d ∧ t.d ≤ 32768 ∧ t.d ≤ (n : Int) ∧ t.b = 0 := by
  unfold refuse at h
  split at h
  · cases h
  · rename_i h1
    split at h
    · cases h
    · rename_i h2
      unfold formed at h1
      rw [if_neg hl] at h1
      have h3 : 3 ≤ t.l ∧ t.l ≤ 258 ∧ t.d ≠ 0 ∧ t.b = 0 := by
        by_cases h4 : 3 ≤ t.l ∧ t.l ≤ 258 ∧ t.d ≠ 0 ∧ t.b = 0
        · exact h4
        · exact absurd (decide_eq_false h4) h1
      exact ⟨h3.1, h3.2.1, by omega, by omega, by omega, h3.2.2.2⟩
/-- The bytes that were put out, in a row of one's own, beside a token's own block. -/
structure UI (w wr : World) (u : Value) (o : List UInt8) : Prop where
  own : Own wr w.heap.size u o
  below : Below w.heap.size w wr
theorem UI.grown {w wr w' : World} {u : Value} {o : List UInt8} (h : UI w wr u o) (hg : wr.grownBy w' none) : UI w w' u o :=
  ⟨World.ownsRow.kept h.own hg (ne_noneT u), h.below.trans ((below_make hg).mono h.below.size)⟩
theorem UI.push {w wr w' : World} {u u' : Value} {o o' : List UInt8} (h : UI w wr u o) (ho : Own w' w.heap.size u' o') (hg : wr.grownBy w' u.ownBlock) : UI w w' u' o' :=
  ⟨ho, h.below.grown hg h.below.size (fun k hk => (World.ownsRow.lt h.own k hk).1)⟩
end Go.Proofs.YtpnnlhegncbfaaaGreatDoor
namespace Go.Proofs.YtpnnlhegncbfaaaGreatDoor
set_option maxRecDepth 20000
open Go.RowKit

/-- A packer, as it is handed on. -/
abbrev pkV (gw : Nat) (pa pb : Option Addr) : Value := .agg #[.pointer (some ⟨gw, 0, none⟩), .pointer pa, .pointer pb]
theorem WM.grow {w w' : World} {B g : Nat} {v : Value} {m : List UInt8} (h : WM w B g v m) (hg : w.grownBy w' none) : WM w' B g v m := h.kept hg (by simp) (ne_none v)
set_option maxHeartbeats 1000000 in
set_option maxRecDepth 10000 in
theorem number_any2 (gw B : Nat) (pa pb : Option Addr) (x k : Nat) (m : List UInt8) (v : Value) (w : World) (hW : WM w B gw v m) (hB : B ≤ w.heap.size) (hk : k ≤ 32) (hx : x < 2 ^ k) (hL : m.length ≤ 7000000) :
    Calls Tryz.prog 71 #[pkV gw pa pb, .int .i64 (x : Int), .int .i64 (k : Int)] w fun e w' => e = .returned (.tuple #[]) ∧ ∃ v', WM w' B gw v' (m ++ lowB x k) ∧ St w gw v w' v' := by
  have hx32 : x < 4294967296 := Nat.lt_of_lt_of_le hx (by have := Nat.pow_le_pow_right (show 0 < 2 by decide) hk; simpa using this)
  have hxm : (x : Int) % 4294967296 = (x : Int) := by omega
  have HOK : RowKit.Hid (okP x (k : Int) = true) := Lib.hid (decide_eq_true ⟨by omega, by omega, by rw [Int.toNat_natCast]; exact hx⟩)
  have hg1 := World.grownBy_alloc w (.cells #[.pointer (some ⟨gw, 0, none⟩), .pointer pa, .pointer pb] 100) none
  have HP := Lib.hid (put_any B gw x (k : Int) m v (w.alloc (.cells #[.pointer (some ⟨gw, 0, none⟩), .pointer pa, .pointer pb] 100)) (hW.grow hg1) (Nat.le_trans hB hg1.size) hL)
  rw [putE_ok HOK.out, putB_low HOK.out, Int.toNat_natCast] at HP
  have HS := Lib.hid (St.none (g := gw) (v := v) hg1)
  clear hW hB hL hg1
  go_enter Tryz.func71, Tryz.ntmps71
  go_wp2_with fail
  refine HP.out.mono ?_
  rintro e w2 ⟨rfl, v', hW2, hS2⟩
  have HF := Lib.hid (And.intro hW2 (HS.out.trans hS2))
  rw [show errV 0 = .nilIface from rfl]
  clear hW2 hS2 HP
  go_wp2_with fail
  refine (pass_nil w2).mono ?_
  rintro e wz ⟨rfl, rfl⟩
  go_wp2_with fail
  go_end0
  exact ⟨rfl, v', HF.out.1, HF.out.2⟩
set_option maxHeartbeats 1000000 in
set_option maxRecDepth 10000 in
theorem sign_any2 (K g B gw : Nat) (pa pb : Option Addr) (ls : List Nat) (s : Nat) (m : List UInt8) (v : Value) (w : World) (hc : HC w K g ls) (hK : K ≤ w.heap.size) (hs : lenAt ls s ≠ 0) (hW : WM w B gw v m) (hB : B ≤ w.heap.size) (hL : m.length ≤ 7000000) :
    Calls Tryz.prog 64 #[pkV gw pa pb, .pointer (some ⟨g, 0, none⟩), .int .i64 (s : Int)] w fun e w' => e = .returned (.tuple #[]) ∧ ∃ v', WM w' B gw v' (m ++ bitsO ls (s : Int)) ∧ St w gw v w' v' := by
  have hg1 := World.grownBy_alloc w (.cells #[.pointer (some ⟨gw, 0, none⟩), .pointer pa, .pointer pb] 100) none
  have HP := Lib.hid (hput_any K g B gw ls (s : Int) m v (w.alloc (.cells #[.pointer (some ⟨gw, 0, none⟩), .pointer pa, .pointer pb] 100)) (hc.grown hK hg1 (fun k hk => by cases hk)) (hW.grow hg1) (Nat.le_trans hB hg1.size) hL)
  rw [show ofE ls (s : Int) = 0 by unfold ofE; rw [if_neg (by rw [lenI_nat]; exact hs)]] at HP
  have HS := Lib.hid (St.none (g := gw) (v := v) hg1)
  clear hc hK hs hW hB hL hg1
  go_enter Tryz.func64, Tryz.ntmps64
  go_wp2_with fail
  refine HP.out.mono ?_
  rintro e w2 ⟨rfl, v', hW2, hS2⟩
  have HF := Lib.hid (And.intro hW2 (HS.out.trans hS2))
  rw [show errV 0 = .nilIface from rfl]
  clear hW2 hS2 HP
  go_wp2_with fail
  refine (pass_nil w2).mono ?_
  rintro e wz ⟨rfl, rfl⟩
  go_wp2_with fail
  go_end0
  exact ⟨rfl, v', HF.out.1, HF.out.2⟩
set_option maxHeartbeats 1000000 in
set_option maxRecDepth 10000 in
theorem begin_any2 (gw B : Nat) (pa pb : Option Addr) (last : Bool) (k : Nat) (m : List UInt8) (v : Value) (w : World) (hW : WM w B gw v m) (hB : B ≤ w.heap.size) (hk : k < 4) (hL : m.length ≤ 6999990) :
    Calls Tryz.prog 61 #[pkV gw pa pb, .bool last, .int .i64 (k : Int)] w fun e w' => e = .returned (.tuple #[]) ∧ ∃ v', WM w' B gw v' (m ++ (lowB (if last then 1 else 0) 1 ++ lowB k 2)) ∧ St w gw v w' v' := by
  have hg1 := World.grownBy_alloc w (.cells #[.pointer (some ⟨gw, 0, none⟩), .pointer pa, .pointer pb] 100) none
  have HW1 := Lib.hid (hW.grow hg1)
  have HS1 := Lib.hid (St.none (g := gw) (v := v) hg1)
  have HB1 := Lib.hid (Nat.le_trans hB hg1.size)
  have HR := Lib.hid (show Row (w.alloc (.cells #[.pointer (some ⟨gw, 0, none⟩), .pointer pa, .pointer pb] 100)) w.heap.size #[.pointer (some ⟨gw, 0, none⟩), .pointer pa, .pointer pb] 100 from heap_alloc_new w _)
  have HN : RowKit.Hid (gw ≠ w.heap.size ∧ ∀ b, v.ownBlock = some b → b ≠ w.heap.size) := Lib.hid ⟨by have := hW.wr.row.lt; omega, fun b hb => by have := (World.ownsRow.lt hW.wr.own b hb).2; omega⟩
  have HL := Lib.hid hL
  clear hW hB hg1 hL
  have HNUM := Lib.hid (number_any2 gw B pa pb (if last then 1 else 0) 1 m v _ HW1.out HB1.out (by omega) (by split <;> decide) (by have := HL.out; omega))
  go_enter Tryz.func61, Tryz.ntmps61
  cases last <;>
  · go_wp2_with fail
    refine HNUM.out.mono ?_
    rintro e w2 ⟨rfl, v2, hW2, hS2⟩
    have hr2 : Row w2 w.heap.size #[.pointer (some ⟨gw, 0, none⟩), .pointer pa, .pointer pb] 100 := by
      unfold Row
      rw [hS2.block w.heap.size (by simp) (fun e => HN.out.1 e.symm) (fun e => HN.out.2 _ e rfl)]
      exact HR.out
    have c0 : w2.cell? ⟨w.heap.size, 0, none⟩ = some (.pointer (some ⟨gw, 0, none⟩)) := hr2.cell 0
    have c1 : w2.cell? ⟨w.heap.size, 1, none⟩ = some (.pointer pa) := hr2.cell 1
    have c2 : w2.cell? ⟨w.heap.size, 2, none⟩ = some (.pointer pb) := hr2.cell 2
    have HW2 := Lib.hid hW2
    have HS2 := Lib.hid (HS1.out.trans hS2)
    have HB2 := Lib.hid (Nat.le_trans HB1.out hS2.size)
    clear hW2 hS2 hr2 HNUM
    go_wp2_with fail
    refine (number_any2 gw B pa pb k 2 _ v2 w2 HW2.out HB2.out (by omega) (by omega) (by have := HL.out; simp [lowB_length]; omega)).mono ?_
    rintro e w3 ⟨rfl, v3, hW3, hS3⟩
    have HW3 := Lib.hid hW3
    have HS3 := Lib.hid (HS2.out.trans hS3)
    clear hW3 hS3 c0 c1 c2
    go_wp2_with fail
    go_end0
    exact ⟨rfl, v3, by rw [← List.append_assoc]; exact HW3.out, HS3.out⟩
end Go.Proofs.YtpnnlhegncbfaaaGreatDoor
namespace Go.Proofs.YtpnnlhegncbfaaaGreatDoor
set_option maxRecDepth 20000

/-- How many bits a number below 256 has. -/
def lenT (y : Nat) : Nat := if y < 1 then 0 else if y < 2 then 1 else if y < 4 then 2 else if y < 8 then 3 else if y < 16 then 4 else if y < 32 then 5 else if y < 64 then 6 else if y < 128 then 7 else 8
/-- How many bits a number below 65536 has. -/
def blen (x : Nat) : Nat := if x < 256 then lenT x else 8 + lenT (x / 256)
theorem lenT_le (y : Nat) : lenT y ≤ 8 := by
  unfold lenT
  repeat' split
  all_goals omega
theorem blen_le (x : Nat) : blen x ≤ 16 := by
  unfold blen
  have h1 := lenT_le x
  have h2 := lenT_le (x / 256)
  split <;> omega
def fur (x fine : Nat) : Nat := blen x - 1 - fine
def sgn (first x fine : Nat) : Nat := first + fur x fine * 2 ^ fine + x / 2 ^ fur x fine

/-- The letter of a length. -/
theorem len_tells : ∀ L : Nat, L < 258 → 3 ≤ L →
    (257 ≤ sgn 257 (L - 3) 2 ∧ sgn 257 (L - 3) 2 ≤ 284 ∧ lenBase (sgn 257 (L - 3) 2) ≤ L ∧ L - lenBase (sgn 257 (L - 3) 2) = (L - 3) % 2 ^ fur (L - 3) 2 ∧ lenMore (sgn 257 (L - 3) 2) = fur (L - 3) 2) := by decide +kernel
theorem len_last : ∀ L : Nat, L < 258 → 3 ≤ L → ∀ s : Nat, s < 286 → sgn 257 (L - 3) 2 < s → L < lenBase s := by decide +kernel
theorem len_258 : lenBase 285 = 258 ∧ lenMore 285 = 0 := by decide +kernel
theorem dist_mono : ∀ a : Nat, a < 31 → ∀ b : Nat, b < 31 → a ≤ b → distSum a ≤ distSum b := by decide +kernel

theorem lenT_at : ∀ k : Nat, k < 8 → ∀ y : Nat, y < 256 → 2 ^ k ≤ y → y < 2 ^ (k + 1) → lenT y = k + 1 := by decide +kernel
theorem blen_at {x k : Nat} (hk : k ≤ 15) (h1 : 2 ^ k ≤ x) (h2 : x < 2 ^ (k + 1)) : blen x = k + 1 := by
  unfold blen
  by_cases hx : x < 256
  · rw [if_pos hx]
    have h8 : k < 8 := by
      rcases Nat.lt_or_ge k 8 with h | h
      · exact h
      · have := Nat.pow_le_pow_right (show 0 < 2 by decide) h
        omega
    exact lenT_at k h8 x hx h1 h2
  · rw [if_neg hx]
    have h8 : 8 ≤ k := by
      rcases Nat.lt_or_ge k 8 with h | h
      · have := Nat.pow_le_pow_right (show 0 < 2 by decide) (show k + 1 ≤ 8 from h)
        omega
      · exact h
    obtain ⟨j, rfl⟩ : ∃ j, k = 8 + j := ⟨k - 8, by omega⟩
    have e1 : 2 ^ (8 + j) = 256 * 2 ^ j := by rw [Nat.pow_add]
    have e2 : 2 ^ (8 + j + 1) = 256 * 2 ^ (j + 1) := by rw [Nat.add_assoc, Nat.pow_add]
    have e3 : 2 ^ (j + 1) = 2 * 2 ^ j := by rw [Nat.pow_succ, Nat.mul_comm]
    have e4 : 2 ^ (j + 1) ≤ 2 ^ 8 := Nat.pow_le_pow_right (by decide) (by omega)
    rw [lenT_at j (by omega) (x / 256) (by omega) (by omega) (by omega)]
    omega
/-- The sign of a distance x + 1, where x has k + 2 bits. -/
theorem dist_at {x k : Nat} (hk : k ≤ 13) (h1 : 2 ^ (k + 1) ≤ x) (h2 : x < 2 ^ (k + 2)) :
    fur x 1 = k ∧ (sgn 0 x 1 = 2 * k + 2 ∨ sgn 0 x 1 = 2 * k + 3) ∧ distSum (sgn 0 x 1) ≤ x + 1 ∧ x + 1 - distSum (sgn 0 x 1) = x % 2 ^ k ∧ x + 1 < distSum (sgn 0 x 1 + 1) ∧ distMore (sgn 0 x 1) = k := by
  have hb := blen_at (x := x) (k := k + 1) (by omega) h1 h2
  have hf : fur x 1 = k := by unfold fur; omega
  have hs : sgn 0 x 1 = k * 2 ^ 1 + x / 2 ^ k := by unfold sgn; rw [hf]; omega
  refine ⟨hf, ?_⟩
  rw [hs]
  clear hb hf hs
  have hd : x / 2 ^ k = 2 ∨ x / 2 ^ k = 3 := by
    rcases (show k = 0 ∨ k = 1 ∨ k = 2 ∨ k = 3 ∨ k = 4 ∨ k = 5 ∨ k = 6 ∨ k = 7 ∨ k = 8 ∨ k = 9 ∨ k = 10 ∨ k = 11 ∨ k = 12 ∨ k = 13 by omega) with rfl | rfl | rfl | rfl | rfl | rfl | rfl | rfl | rfl | rfl | rfl | rfl | rfl | rfl <;> simp only [Nat.reducePow, Nat.reduceAdd] at h1 h2 ⊢ <;> omega
  have hm := Nat.div_add_mod x (2 ^ k)
  have hl : x % 2 ^ k < 2 ^ k := Nat.mod_lt _ (Nat.two_pow_pos _)
  have t2 : ∀ k : Nat, k < 14 → distSum (2 * k + 2) = 2 * 2 ^ k + 1 ∧ distSum (2 * k + 3) = 3 * 2 ^ k + 1 ∧ distSum (2 * k + 4) = 4 * 2 ^ k + 1 ∧ distMore (2 * k + 2) = k ∧ distMore (2 * k + 3) = k := by decide +kernel
  obtain ⟨a1, a2, a3, a4, a5⟩ := t2 k (by omega)
  rcases hd with hd | hd
  · rw [hd] at hm ⊢
    rw [show k * 2 ^ 1 + 2 = 2 * k + 2 by omega]
    refine ⟨.inl rfl, ?_⟩
    rw [show 2 * k + 2 + 1 = 2 * k + 3 by omega, a1, a2, a4]
    refine ⟨by omega, by omega, by omega, rfl⟩
  · rw [hd] at hm ⊢
    rw [show k * 2 ^ 1 + 3 = 2 * k + 3 by omega]
    refine ⟨.inr rfl, ?_⟩
    rw [show 2 * k + 3 + 1 = 2 * k + 4 by omega, a2, a3, a5]
    refine ⟨by omega, by omega, by omega, rfl⟩
theorem dist_tells {x : Nat} (hx : x < 32768) :
    sgn 0 x 1 ≤ 29 ∧ distSum (sgn 0 x 1) ≤ x + 1 ∧ x + 1 - distSum (sgn 0 x 1) = x % 2 ^ fur x 1 ∧ distMore (sgn 0 x 1) = fur x 1 ∧ fur x 1 ≤ 13 ∧ ∀ s, sgn 0 x 1 < s → s ≤ 29 → x + 1 < distSum s := by
  by_cases h2 : x < 2
  · have hf : fur x 1 = 0 ∧ sgn 0 x 1 = x := by
      rcases (show x = 0 ∨ x = 1 by omega) with rfl | rfl <;> decide
    rw [hf.1, hf.2]
    have d : ∀ x : Nat, x < 2 → distSum x = x + 1 ∧ distMore x = 0 ∧ distSum (x + 1) = x + 2 := by decide +kernel
    obtain ⟨d1, d2, d3⟩ := d x h2
    refine ⟨by omega, by omega, by omega, d2, by omega, fun s h h' => ?_⟩
    have := dist_mono (x + 1) (by omega) s (by omega) (by omega)
    omega
  · obtain ⟨k, hk, h3, h4⟩ : ∃ k, k ≤ 13 ∧ 2 ^ (k + 1) ≤ x ∧ x < 2 ^ (k + 2) := by
      by_cases a1 : x < 4; · exact ⟨0, by omega, by simp only [Nat.reducePow, Nat.reduceAdd]; omega, by simp only [Nat.reducePow, Nat.reduceAdd]; omega⟩
      by_cases a2 : x < 8; · exact ⟨1, by omega, by simp only [Nat.reducePow, Nat.reduceAdd]; omega, by simp only [Nat.reducePow, Nat.reduceAdd]; omega⟩
      by_cases a3 : x < 16; · exact ⟨2, by omega, by simp only [Nat.reducePow, Nat.reduceAdd]; omega, by simp only [Nat.reducePow, Nat.reduceAdd]; omega⟩
      by_cases a4 : x < 32; · exact ⟨3, by omega, by simp only [Nat.reducePow, Nat.reduceAdd]; omega, by simp only [Nat.reducePow, Nat.reduceAdd]; omega⟩
      by_cases a5 : x < 64; · exact ⟨4, by omega, by simp only [Nat.reducePow, Nat.reduceAdd]; omega, by simp only [Nat.reducePow, Nat.reduceAdd]; omega⟩
      by_cases a6 : x < 128; · exact ⟨5, by omega, by simp only [Nat.reducePow, Nat.reduceAdd]; omega, by simp only [Nat.reducePow, Nat.reduceAdd]; omega⟩
      by_cases a7 : x < 256; · exact ⟨6, by omega, by simp only [Nat.reducePow, Nat.reduceAdd]; omega, by simp only [Nat.reducePow, Nat.reduceAdd]; omega⟩
      by_cases a8 : x < 512; · exact ⟨7, by omega, by simp only [Nat.reducePow, Nat.reduceAdd]; omega, by simp only [Nat.reducePow, Nat.reduceAdd]; omega⟩
      by_cases a9 : x < 1024; · exact ⟨8, by omega, by simp only [Nat.reducePow, Nat.reduceAdd]; omega, by simp only [Nat.reducePow, Nat.reduceAdd]; omega⟩
      by_cases b1 : x < 2048; · exact ⟨9, by omega, by simp only [Nat.reducePow, Nat.reduceAdd]; omega, by simp only [Nat.reducePow, Nat.reduceAdd]; omega⟩
      by_cases b2 : x < 4096; · exact ⟨10, by omega, by simp only [Nat.reducePow, Nat.reduceAdd]; omega, by simp only [Nat.reducePow, Nat.reduceAdd]; omega⟩
      by_cases b3 : x < 8192; · exact ⟨11, by omega, by simp only [Nat.reducePow, Nat.reduceAdd]; omega, by simp only [Nat.reducePow, Nat.reduceAdd]; omega⟩
      by_cases b4 : x < 16384; · exact ⟨12, by omega, by simp only [Nat.reducePow, Nat.reduceAdd]; omega, by simp only [Nat.reducePow, Nat.reduceAdd]; omega⟩
      exact ⟨13, by omega, by simp only [Nat.reducePow, Nat.reduceAdd]; omega, by simp only [Nat.reducePow, Nat.reduceAdd]; omega⟩
    obtain ⟨c1, c2, c3, c4, c5, c6⟩ := dist_at hk h3 h4
    rw [c1]
    refine ⟨by omega, c3, c4, c6, hk, fun s h h' => ?_⟩
    have := dist_mono (sgn 0 x 1 + 1) (by omega) s (by omega) (by omega)
    omega
end Go.Proofs.YtpnnlhegncbfaaaGreatDoor
