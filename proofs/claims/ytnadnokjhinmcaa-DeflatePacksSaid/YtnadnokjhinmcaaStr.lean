
/- Codes as texts of 0 and 1: contracts of the law's row and of the reference's row; rows of texts. -/
import Derived.Test.YtnadnokjhinmcaaStp
namespace Go.Proofs.Ytnadnokjhinmcaa
open Go.RowKit

/-- The first j figures of a number of n bits, the highest one first. -/
def figL (x n j : Nat) : List UInt8 := ((lowB x n).reverse.take j).map (· + 48)
/-- A code as a text. -/
def rowS (x n : Nat) : ByteArray := ⟨(figL x n n).toArray⟩
theorem figL_length (x n j : Nat) (h : j ≤ n) : (figL x n j).length = j := by unfold figL; rw [List.length_map, List.length_take, List.length_reverse, lowB_length]; omega
theorem figL_more (x n j : Nat) (h : j < n) : figL x n (j + 1) = figL x n j ++ [bitN x (n - 1 - j) + 48] := by
  unfold figL
  rw [take_more (rev_at x n j h), List.map_append]; rfl
theorem figS_more (x n j : Nat) (h : j < n) : (⟨(figL x n (j + 1)).toArray⟩ : ByteArray) = ⟨(figL x n j).toArray⟩ ++ ⟨#[bitN x (n - 1 - j) + 48]⟩ := by
  rw [figL_more x n j h]
  apply ByteArray.ext
  simp [ByteArray.data_append]
theorem figS_size (x n j : Nat) (h : j ≤ n) : (⟨(figL x n j).toArray⟩ : ByteArray).size = j := by
  show (figL x n j).toArray.size = j
  rw [List.size_toArray, figL_length x n j h]
theorem fig_one (x k : Nat) (h : x / 2 ^ k % 2 = 1) : bitN x k + 48 = 49 := by unfold bitN; rw [h]; rfl
theorem fig_zero (x k : Nat) (h : x / 2 ^ k % 2 = 0) : bitN x k + 48 = 48 := by unfold bitN; rw [h]; rfl

set_option maxHeartbeats 1000000 in
theorem rrow_any (x n : Nat) (w : World) (hx : x < 1000000) (hn : n ≤ 20) : Calls Try.prog 48 #[.int .i64 (x : Int), .int .i64 (n : Int)] w fun e w' => e = .returned (.string (rowS x n)) ∧ w' = w := by
  go_enter Try.func48, Try.ntmps48
  go_wp2_with fail
  go_loopw [5, 6] (fun s i wr => ∃ j : Nat, j ≤ n ∧ s = .string ⟨(figL x n j).toArray⟩ ∧ i = .int .i64 ((n : Int) - 1 - (j : Int)) ∧ wr = w) (fun _ i _ => ((intOf i) + 1).toNat)
  case atStart => exact ⟨0, by omega, by simp [figL], by simp, rfl⟩
  case round =>
    obtain ⟨j, hj, rfl, rfl, rfl⟩ := hrel
    by_cases hjn : j < n
    · obtain ⟨d, hd⟩ : ∃ d, n - 1 - j = d := ⟨_, rfl⟩
      have hdi : (n : Int) - 1 - (j : Int) = (d : Int) := by omega
      have hde : decide ((0 : Int) ≤ (d : Int)) = true := decide_eq_true (by omega)
      have HF := Lib.hid (figS_more x n j hjn)
      have hsz := figS_size x n j (by omega)
      rw [hd] at HF
      rw [hdi]
      have hd20 : d < 20 := by omega
      have HJ : RowKit.Hid ((n : Int) - 1 - ((j + 1 : Nat) : Int) = (d : Int) - 1) := Lib.hid (by omega)
      generalize (⟨(figL x n j).toArray⟩ : ByteArray) = s at HF hsz ⊢
      have hs1 : ¬ 9223372036854775807 < s.size + 1 := by omega
      have hxd : (x / 2 ^ d : Nat) < 1000000 := Nat.lt_of_le_of_lt (Nat.div_le_self _ _) hx
      obtain ⟨y, hy⟩ : ∃ y, x / 2 ^ d = y := ⟨_, rfl⟩
      have hyi : (x : Int) / 2 ^ d = (y : Int) := by rw [← hy]; simp
      rcases Nat.mod_two_eq_zero_or_one y with h2 | h2
      · have e1 : ((y : Int) % 2 == 1) = false := by rw [beq_eq_false_iff_ne]; omega
        have e2 : ((y : Int).tmod 2 == 1) = false := by rw [Int.tmod_eq_emod_of_nonneg (by omega)]; exact e1
        rw [fig_zero x d (by rw [hy]; exact h2)] at HF
        clear hd hdi hsz hy
        go_wp2_with fail
        go_roundw
        case rel => exact ⟨j + 1, by omega, by rw [HF.out], by rw [HJ.out], trivial⟩
        case measure => simp [intOf]
      · have e1 : ((y : Int) % 2 == 1) = true := by rw [beq_iff_eq]; omega
        have e2 : ((y : Int).tmod 2 == 1) = true := by rw [Int.tmod_eq_emod_of_nonneg (by omega)]; exact e1
        rw [fig_one x d (by rw [hy]; exact h2)] at HF
        clear hd hdi hsz hy
        go_wp2_with fail
        go_roundw
        case rel => exact ⟨j + 1, by omega, by rw [HF.out], by rw [HJ.out], trivial⟩
        case measure => simp [intOf]
    · obtain rfl : j = n := by omega
      have hde : decide ((0 : Int) ≤ (j : Int) - 1 - (j : Int)) = false := decide_eq_false (by omega)
      have hdi : (j : Int) - 1 - (j : Int) = -1 := by omega
      rw [hdi]
      clear hdi hde
      go_wp2_with fail
      go_ret
      exact ⟨rfl, rfl⟩
theorem oddI (y : Nat) (hy : y < 1000000) : bits .and .i64 (y : Int) 1 = ((y % 2 : Nat) : Int) := by
  have hx : y &&& 1 < 2 ^ 62 := Nat.and_lt_two_pow _ (by omega)
  have h1 := ofInt_i64 1 (by decide)
  show IntKind.i64.wrap ((BitVec.ofInt 64 (y : Int) &&& BitVec.ofInt 64 ((1 : Nat) : Int)).toNat : Int) = _
  rw [BitVec.toNat_and, ofInt_i64 y (by omega), h1, Nat.and_one_is_mod]
  simp [IntKind.wrap, IntKind.bits, IntKind.signed]
  omega

/-- A row of texts. -/
def sa (f : Nat → ByteArray) (n : Nat) : Array Value := ((List.range n).map fun i => Value.string (f i)).toArray
theorem sa_size (f : Nat → ByteArray) (n : Nat) : (sa f n).size = n := by simp [sa]
theorem sa_at (f : Nat → ByteArray) {n i : Nat} (h : i < n) : (sa f n)[i]? = some (.string (f i)) := by simp [sa, List.getElem?_range h]
def updS (f : Nat → ByteArray) (i : Nat) (v : ByteArray) : Nat → ByteArray := fun j => if j = i then v else f j
theorem sa_set (f : Nat → ByteArray) (n i : Nat) (v : ByteArray) : (sa f n).setIfInBounds i (.string v) = sa (updS f i v) n := by
  apply Array.ext_getElem?
  intro j
  rcases Nat.lt_or_ge j n with h | h
  · rw [sa_at _ h, Array.getElem?_setIfInBounds]
    by_cases hj : i = j
    · subst hj; rw [if_pos rfl, if_pos (by rw [sa_size]; exact h)]; simp [updS]
    · rw [if_neg hj, sa_at _ h]; simp [updS, Ne.symm hj]
  · rw [Array.getElem?_eq_none (by rw [Array.size_setIfInBounds, sa_size]; exact h), Array.getElem?_eq_none (by rw [sa_size]; exact h)]
theorem Row.sa {w : World} {g n t : Nat} {f : Nat → ByteArray} (h : Row w g (Go.Proofs.Ytnadnokjhinmcaa.sa f n) t) {i : Nat} (hi : i < n) : w.cell? ⟨g, i, none⟩ = some (.string (f i)) := by rw [h.cell, sa_at _ hi]
theorem Row.saSet {w : World} {g n t : Nat} {f : Nat → ByteArray} (h : Row w g (Go.Proofs.Ytnadnokjhinmcaa.sa f n) t) (i : Nat) (v : ByteArray) : Row (w.setCell ⟨g, i, none⟩ (.string v)) g (Go.Proofs.Ytnadnokjhinmcaa.sa (updS f i v) n) t := by
  rw [← sa_set]; exact h.set i _
theorem sa_congr {f g : Nat → ByteArray} {n : Nat} (h : ∀ i, i < n → f i = g i) : sa f n = sa g n := by
  unfold sa
  congr 1
  apply List.map_congr_left
  intro i hi
  rw [h i (List.mem_range.1 hi)]
theorem info9 : (Try.prog.info? 9).map (fun i => (i.zero, i.size, i.bytes)) = some (some (.string ⟨#[]⟩), 1, 16) := by kernel_rfl
theorem zeros_sa (n : Nat) : madeCells #[.string ⟨#[]⟩] n = sa (fun _ => ⟨#[]⟩) n := by
  apply Array.toList_inj.1
  rw [toList_madeCells_one]
  simp [sa, List.map_const']
theorem makeS_run (m : Nat) (hm : m ≤ 1000000) (w : World) : (Instr.makeSlice 69 (.int .i64 (m : Int)) (.int .i64 (m : Int))).run Try.prog w = .ok (.slice (some ⟨w.heap.size, 0, none⟩) m m) (w.alloc (.cells (sa (fun _ => ⟨#[]⟩) m) 9)) := by
  rw [← zeros_sa]
  exact run_make_row' 69 9 (.string ⟨#[]⟩) 16 Try.underlying69 info9 rfl .i64 .i64 m (by omega) (by omega) w
/-- make([]string, T) -/
theorem makeS {ops : Array Oper} {rest : List Oper} {o : Oper} {a : Act} {Q : Exit → Act → World → Prop} (w0 : World) (hgd : o.guard = none) (l c : Operand)
    (ho : o.op = Op.makeSlice 69 l c) (T : Nat) (hl : a.eval l = .int .i64 (T : Int)) (hc : a.eval c = .int .i64 (T : Int)) (h1 : T ≤ 1000000)
    (h : ∀ w', Row w' w0.heap.size (sa (fun _ => ⟨#[]⟩) T) 9 → w0.grownBy w' none → w'.heap.size = w0.heap.size + 1 → wpList Try.prog ops Q rest (a.put o.dst (.slice (some ⟨w0.heap.size, 0, none⟩) T T)) w') :
    wpList Try.prog ops Q (o :: rest) a w0 := by
  refine wpList_plain hgd fun K hK' => ?_
  unfold Oper.wp
  simp [execOp, ho, hl, hc, makeS_run T h1 w0, Result.andThen]
  exact hK' _ _ (h _ (heap_alloc_new w0 _) (World.grownBy_alloc w0 _ _) (by simp))
end Go.Proofs.Ytnadnokjhinmcaa
