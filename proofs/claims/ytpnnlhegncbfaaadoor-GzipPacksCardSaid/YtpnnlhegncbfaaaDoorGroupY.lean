
/- The reference's Deflate, given the contract of its Fixed; deflate's Bound. -/

/- Codes as texts of 0 and 1: contracts of the law's row and of the reference's row; rows of texts. -/

/- Contract of the reference's Codes. -/
import Derived.Test.YtpnnlhegncbfaaaDoorGroupX
import Derived.Test.YtpnnlhegncbfaaaDoorGroupW
import Derived.Lib.MinMax
import Derived.Test.YtpnnlhegncbfaaaDoorGroupU
namespace Go.Proofs.YtpnnlhegncbfaaaDoor
set_option maxRecDepth 20000
open Go.RowKit

/-- The contract of the reference's Fixed. -/
def FixC : Prop := ∀ (A : Option Addr) (n c : Nat) (l : List UInt8) (w : World), Rd w w.heap.size A n (us l) → n ≤ 1000 →
    Calls Tryd.prog 43 #[.slice A n c] w fun e w' => ∃ v, e = .returned v ∧ Own w' w.heap.size v (tokT l) ∧ Below w.heap.size w w'

set_option maxHeartbeats 1000000 in
theorem rdeflate_range (A : Option Addr) (n c : Nat) (z : Int) (w : World) (hz : z < 0 ∨ 2 < z) :
    Calls Tryd.prog 30 #[.slice A n c, .int .i64 z] w fun e w' => e = .returned (.tuple #[.slice none 0 0, .int .i64 1]) ∧ w' = w := by
  by_cases h0 : z < 0
  · have d0 : decide (z < 0) = true := decide_eq_true h0
    clear hz h0
    go_enter Tryd.func30, Tryd.ntmps30
    go_wp2_with fail
    go_ret2
    exact ⟨rfl, rfl⟩
  · have d0 : decide (z < 0) = false := decide_eq_false h0
    have d1 : decide (2 < z) = true := decide_eq_true (by omega)
    clear hz h0
    go_enter Tryd.func30, Tryd.ntmps30
    go_wp2_with fail
    go_ret2
    exact ⟨rfl, rfl⟩

set_option maxHeartbeats 4000000 in
set_option maxRecDepth 10000 in
theorem rdeflate_any (hfix : FixC) (A : Option Addr) (n c : Nat) (l : List UInt8) (z : Int) (w : World) (hr : Rd w w.heap.size A n (us l)) (hA : A = none → c = 0) (hn : n ≤ 1000) (hnc : n ≤ c) (hz : 0 ≤ z ∧ z ≤ 2) :
    Calls Tryd.prog 30 #[.slice A n c, .int .i64 z] w fun e w' => ∃ v, e = .returned (.tuple #[v, .int .i64 0]) ∧ Own w' w.heap.size v (packT l z) ∧ Below w.heap.size w w' := by
  have HP : ∀ w', Below w.heap.size w w' → RowKit.Hid (Calls Tryd.prog 42 #[.slice A n c] w' fun e w'' => ∃ v, e = .returned v ∧ Own w'' w'.heap.size v (plainT l) ∧ Below w'.heap.size w' w'') := fun w' hb => Lib.hid (rplain_any A n c l w' (hr.next hb) hA (by omega) hnc)
  have HT : RowKit.Hid (Calls Tryd.prog 43 #[.slice A n c] w fun e w'' => ∃ v, e = .returned v ∧ Own w'' w.heap.size v (tokT l) ∧ Below w.heap.size w w'') := Lib.hid (hfix A n c l w hr hn)
  have d2 : decide (1048576 < (n : Int)) = false := decide_eq_false (by omega)
  clear hr hA hn hnc hfix
  by_cases h0 : z = 0
  · subst h0
    rw [show packT l 0 = plainT l from if_pos rfl]
    clear HT
    go_enter Tryd.func30, Tryd.ntmps30
    go_wp2_with fail
    refine (HP w (Below.refl _ _)).out.mono ?_
    rintro e w1 ⟨v, rfl, ho, hb⟩
    have HF := Lib.hid (And.intro ho hb)
    clear ho hb HP
    go_wp2_with fail
    go_ret2
    exact ⟨_, rfl, HF.out⟩
  · have hz12 : z = 1 ∨ z = 2 := by omega
    obtain ⟨X, HX⟩ : ∃ X, RowKit.Hid (packT l z = X) := ⟨_, Lib.hid rfl⟩
    rw [HX.out]
    have HX1 : RowKit.Hid (z = 1 → tokT l = X) := Lib.hid (fun h => by rw [← HX.out, h]; rfl)
    have HX2 : RowKit.Hid (z = 2 → (if (plainT l).length < (tokT l).length then plainT l else tokT l) = X) := Lib.hid (fun h => by rw [← HX.out, h]; rfl)
    clear HX h0 hz
    generalize plainT l = P at HP HX2
    generalize tokT l = T at HT HX1 HX2
    rcases hz12 with rfl | rfl
    · clear HX2
      have HX3 := Lib.hid (HX1.out rfl)
      clear HX1
      go_enter Tryd.func30, Tryd.ntmps30
      go_wp2_with fail
      refine HT.out.mono ?_
      rintro e w1 ⟨v, rfl, ho, hb⟩
      have HO1 := Lib.hid ho
      have HB1 := Lib.hid hb
      clear ho hb HT
      go_wp2_with fail
      refine (HP w1 HB1.out).out.mono ?_
      rintro e w2 ⟨u, rfl, ho, hb⟩
      have HF : RowKit.Hid (Own w2 w.heap.size v X ∧ Below w.heap.size w w2) := Lib.hid (by
        rw [← HX3.out]
        exact ⟨HO1.out.blocks (fun k hk => hb.block k (World.ownsRow.lt HO1.out k hk).2), HB1.out.trans (hb.mono HB1.out.size)⟩)
      clear ho hb HP HO1 HB1
      go_wp2_with fail
      go_ret2
      exact ⟨_, rfl, HF.out⟩
    · clear HX1
      have HX3 := Lib.hid (HX2.out rfl)
      clear HX2
      go_enter Tryd.func30, Tryd.ntmps30
      go_wp2_with fail
      refine HT.out.mono ?_
      rintro e w1 ⟨v, rfl, ho, hb⟩
      have HO1 := Lib.hid ho
      have HB1 := Lib.hid hb
      clear ho hb HT
      go_wp2_with fail
      refine (HP w1 HB1.out).out.mono ?_
      rintro e w2 ⟨u, rfl, ho, hb⟩
      have HO2 : RowKit.Hid (Own w2 w.heap.size v T) := Lib.hid (HO1.out.blocks (fun k hk => hb.block k (World.ownsRow.lt HO1.out k hk).2))
      have HP2 : RowKit.Hid (Own w2 w.heap.size u P) := Lib.hid (own_mono ho HB1.out.size)
      have HB2 : RowKit.Hid (Below w.heap.size w w2) := Lib.hid (HB1.out.trans (hb.mono HB1.out.size))
      clear ho hb HP HO1 HB1
      obtain ⟨Av, cv, rfl⟩ := HP2.out.slice
      obtain ⟨Au, cu, rfl⟩ := HO2.out.slice
      generalize hp : P.length = p at HP2 HX3 ⊢
      generalize ht : T.length = t at HO2 HX3 ⊢
      clear hp ht
      by_cases hlt : p < t
      · have d1 : decide ((p : Int) < (t : Int)) = true := decide_eq_true (by omega)
        have HX4 : RowKit.Hid (P = X) := Lib.hid (by rw [← HX3.out, if_pos hlt])
        clear HX3
        go_wp2_with fail
        go_ret2
        exact ⟨_, rfl, HX4.out ▸ HP2.out, HB2.out⟩
      · have d1 : decide ((p : Int) < (t : Int)) = false := decide_eq_false (by omega)
        have HX4 : RowKit.Hid (T = X) := Lib.hid (by rw [← HX3.out, if_neg hlt])
        clear HX3
        go_wp2_with fail
        go_ret2
        exact ⟨_, rfl, HX4.out ▸ HO2.out, HB2.out⟩

set_option maxHeartbeats 1000000 in
theorem bound_nat (n q : Nat) (h : n ≤ 1000) (hq : n / 10 = q) (w : World) : Calls Tryd.prog 11 #[.int .i64 (n : Int)] w fun e w' => e = .returned (.int .i64 ((n : Int) + (q : Int) + 16)) ∧ w' = w := by
  have e0 : max (0 : Int) (n : Int) = (n : Int) := by omega
  have e1 : (n : Int).tdiv 10 = (q : Int) := by rw [Int.tdiv_eq_ediv_of_nonneg (by omega)]; omega
  have e2 : (n : Int) / 10 = (q : Int) := by omega
  have E5 : RowKit.Hid (wrap64 (q : Int) = (q : Int)) := Lib.hid (by unfold wrap64; omega)
  have E3 : RowKit.Hid (wrap64 ((n : Int) + (q : Int)) = (n : Int) + (q : Int)) := Lib.hid (by unfold wrap64; omega)
  have E4 : RowKit.Hid (wrap64 ((n : Int) + (q : Int) + 16) = (n : Int) + (q : Int) + 16) := Lib.hid (by unfold wrap64; omega)
  clear hq h
  go_enter Tryd.func11, Tryd.ntmps11
  go_wp2_with fail
  go_ret
  refine ⟨?_, rfl⟩
  show Ending.returned (.int .i64 (wrap64 (wrap64 ((n : Int) + wrap64 (q : Int)) + 16))) = _
  rw [E5.out, E3.out, E4.out]
set_option maxHeartbeats 1000000 in
theorem bound_neg (x : Int) (h1 : -2000 ≤ x) (h2 : x < 0) (w : World) : Calls Tryd.prog 11 #[.int .i64 x] w fun e w' => e = .returned (.int .i64 16) ∧ w' = w := by
  have e0 : max (0 : Int) x = 0 := by omega
  clear h1 h2
  go_enter Tryd.func11, Tryd.ntmps11
  go_wp2_with fail
  go_ret
  exact ⟨rfl, rfl⟩
end Go.Proofs.YtpnnlhegncbfaaaDoor
namespace Go.Proofs.YtpnnlhegncbfaaaDoor
set_option maxRecDepth 20000
open Go.RowKit

/-- The first j figures of a number of n bits, the highest one first. -/
def figL (x n j : Nat) : List UInt8 := ((lowB x n).reverse.take j).map (· + 48)
/-- A code as a text. -/
def rowS (x n : Nat) : ByteArray := ⟨(figL x n n).toArray⟩
theorem figL_length (x n j : Nat) (h : j ≤ n) : (figL x n j).length = j := by unfold figL; rw [List.length_map, List.length_take, List.length_reverse, lowB_length]; omega
theorem figL_more (x n j : Nat) (h : j < n) : figL x n (j + 1) = figL x n j ++ [bitN x (n - 1 - j) + 48] := by
  unfold figL
  rw [take_more (rev_at x n j h), List.map_append]; rfl
theorem figS_more (x n j : Nat) (h : j < n) : (⟨(figL x n (j + 1)).toArray⟩ : ByteArray) = ⟨(figL x n j).toArray⟩ ++ ⟨#[bitN x (n - 1 - j) + 48]⟩ := by
  rw [figL_more x n j h]
  apply ByteArray.ext
  simp [ByteArray.data_append]
theorem figS_size (x n j : Nat) (h : j ≤ n) : (⟨(figL x n j).toArray⟩ : ByteArray).size = j := by
  show (figL x n j).toArray.size = j
  rw [List.size_toArray, figL_length x n j h]
theorem fig_one (x k : Nat) (h : x / 2 ^ k % 2 = 1) : bitN x k + 48 = 49 := by unfold bitN; rw [h]; rfl
theorem fig_zero (x k : Nat) (h : x / 2 ^ k % 2 = 0) : bitN x k + 48 = 48 := by unfold bitN; rw [h]; rfl

set_option maxHeartbeats 1000000 in
theorem rrow_any (x n : Nat) (w : World) (hx : x < 1000000) (hn : n ≤ 20) : Calls Tryd.prog 92 #[.int .i64 (x : Int), .int .i64 (n : Int)] w fun e w' => e = .returned (.string (rowS x n)) ∧ w' = w := by
  go_enter Tryd.func92, Tryd.ntmps92
  go_wp2_with fail
  go_loopw [5, 6] (fun s i wr => ∃ j : Nat, j ≤ n ∧ s = .string ⟨(figL x n j).toArray⟩ ∧ i = .int .i64 ((n : Int) - 1 - (j : Int)) ∧ wr = w) (fun _ i _ => ((intOf i) + 1).toNat)
  case atStart => exact ⟨0, by omega, by simp [figL], by simp, rfl⟩
  case round =>
    obtain ⟨j, hj, rfl, rfl, rfl⟩ := hrel
    by_cases hjn : j < n
    · obtain ⟨d, hd⟩ : ∃ d, n - 1 - j = d := ⟨_, rfl⟩
      have hdi : (n : Int) - 1 - (j : Int) = (d : Int) := by omega
      have hde : decide ((0 : Int) ≤ (d : Int)) = true := decide_eq_true (by omega)
      have HF := Lib.hid (figS_more x n j hjn)
      have hsz := figS_size x n j (by omega)
      rw [hd] at HF
      rw [hdi]
      have hd20 : d < 20 := by omega
      have HJ : RowKit.Hid ((n : Int) - 1 - ((j + 1 : Nat) : Int) = (d : Int) - 1) := Lib.hid (by omega)
      generalize (⟨(figL x n j).toArray⟩ : ByteArray) = s at HF hsz ⊢
      have hs1 : ¬ 9223372036854775807 < s.size + 1 := by omega
      have hxd : (x / 2 ^ d : Nat) < 1000000 := Nat.lt_of_le_of_lt (Nat.div_le_self _ _) hx
      obtain ⟨y, hy⟩ : ∃ y, x / 2 ^ d = y := ⟨_, rfl⟩
      have hyi : (x : Int) / 2 ^ d = (y : Int) := by rw [← hy]; simp
      rcases Nat.mod_two_eq_zero_or_one y with h2 | h2
      · have e1 : ((y : Int) % 2 == 1) = false := by rw [beq_eq_false_iff_ne]; omega
        have e2 : ((y : Int).tmod 2 == 1) = false := by rw [Int.tmod_eq_emod_of_nonneg (by omega)]; exact e1
        rw [fig_zero x d (by rw [hy]; exact h2)] at HF
        clear hd hdi hsz hy
        go_wp2_with fail
        go_roundw
        case rel => exact ⟨j + 1, by omega, by rw [HF.out], by rw [HJ.out], trivial⟩
        case measure => simp [intOf]
      · have e1 : ((y : Int) % 2 == 1) = true := by rw [beq_iff_eq]; omega
        have e2 : ((y : Int).tmod 2 == 1) = true := by rw [Int.tmod_eq_emod_of_nonneg (by omega)]; exact e1
        rw [fig_one x d (by rw [hy]; exact h2)] at HF
        clear hd hdi hsz hy
        go_wp2_with fail
        go_roundw
        case rel => exact ⟨j + 1, by omega, by rw [HF.out], by rw [HJ.out], trivial⟩
        case measure => simp [intOf]
    · obtain rfl : j = n := by omega
      have hde : decide ((0 : Int) ≤ (j : Int) - 1 - (j : Int)) = false := decide_eq_false (by omega)
      have hdi : (j : Int) - 1 - (j : Int) = -1 := by omega
      rw [hdi]
      clear hdi hde
      go_wp2_with fail
      go_ret
      exact ⟨rfl, rfl⟩
theorem oddI (y : Nat) (hy : y < 1000000) : bits .and .i64 (y : Int) 1 = ((y % 2 : Nat) : Int) := by
  have hx : y &&& 1 < 2 ^ 62 := Nat.and_lt_two_pow _ (by omega)
  have h1 := ofInt_i64 1 (by decide)
  show IntKind.i64.wrap ((BitVec.ofInt 64 (y : Int) &&& BitVec.ofInt 64 ((1 : Nat) : Int)).toNat : Int) = _
  rw [BitVec.toNat_and, ofInt_i64 y (by omega), h1, Nat.and_one_is_mod]
  simp [IntKind.wrap, IntKind.bits, IntKind.signed]
  omega

/-- A row of texts. -/
def sa (f : Nat → ByteArray) (n : Nat) : Array Value := ((List.range n).map fun i => Value.string (f i)).toArray
theorem sa_size (f : Nat → ByteArray) (n : Nat) : (sa f n).size = n := by simp [sa]
theorem sa_at (f : Nat → ByteArray) {n i : Nat} (h : i < n) : (sa f n)[i]? = some (.string (f i)) := by simp [sa, List.getElem?_range h]
def updS (f : Nat → ByteArray) (i : Nat) (v : ByteArray) : Nat → ByteArray := fun j => if j = i then v else f j
theorem sa_set (f : Nat → ByteArray) (n i : Nat) (v : ByteArray) : (sa f n).setIfInBounds i (.string v) = sa (updS f i v) n := by
  apply Array.ext_getElem?
  intro j
  rcases Nat.lt_or_ge j n with h | h
  · rw [sa_at _ h, Array.getElem?_setIfInBounds]
    by_cases hj : i = j
    · subst hj; rw [if_pos rfl, if_pos (by rw [sa_size]; exact h)]; simp [updS]
    · rw [if_neg hj, sa_at _ h]; simp [updS, Ne.symm hj]
  · rw [Array.getElem?_eq_none (by rw [Array.size_setIfInBounds, sa_size]; exact h), Array.getElem?_eq_none (by rw [sa_size]; exact h)]
theorem Row.sa {w : World} {g n t : Nat} {f : Nat → ByteArray} (h : Row w g (Go.Proofs.YtpnnlhegncbfaaaDoor.sa f n) t) {i : Nat} (hi : i < n) : w.cell? ⟨g, i, none⟩ = some (.string (f i)) := by rw [h.cell, sa_at _ hi]
theorem Row.saSet {w : World} {g n t : Nat} {f : Nat → ByteArray} (h : Row w g (Go.Proofs.YtpnnlhegncbfaaaDoor.sa f n) t) (i : Nat) (v : ByteArray) : Row (w.setCell ⟨g, i, none⟩ (.string v)) g (Go.Proofs.YtpnnlhegncbfaaaDoor.sa (updS f i v) n) t := by
  rw [← sa_set]; exact h.set i _
theorem sa_congr {f g : Nat → ByteArray} {n : Nat} (h : ∀ i, i < n → f i = g i) : sa f n = sa g n := by
  unfold sa
  congr 1
  apply List.map_congr_left
  intro i hi
  rw [h i (List.mem_range.1 hi)]
theorem info9 : (Tryd.prog.info? 9).map (fun i => (i.zero, i.size, i.bytes)) = some (some (.string ⟨#[]⟩), 1, 16) := by kernel_rfl
theorem zeros_sa (n : Nat) : madeCells #[.string ⟨#[]⟩] n = sa (fun _ => ⟨#[]⟩) n := by
  apply Array.toList_inj.1
  rw [toList_madeCells_one]
  simp [sa, List.map_const']
theorem makeS_run (m : Nat) (hm : m ≤ 1000000) (w : World) : (Instr.makeSlice 100 (.int .i64 (m : Int)) (.int .i64 (m : Int))).run Tryd.prog w = .ok (.slice (some ⟨w.heap.size, 0, none⟩) m m) (w.alloc (.cells (sa (fun _ => ⟨#[]⟩) m) 9)) := by
  rw [← zeros_sa]
  exact run_make_row' 100 9 (.string ⟨#[]⟩) 16 Tryd.underlying100 info9 rfl .i64 .i64 m (by omega) (by omega) w
/-- make([]string, T) -/
theorem makeS {ops : Array Oper} {rest : List Oper} {o : Oper} {a : Act} {Q : Exit → Act → World → Prop} (w0 : World) (hgd : o.guard = none) (l c : Operand)
    (ho : o.op = Op.makeSlice 100 l c) (T : Nat) (hl : a.eval l = .int .i64 (T : Int)) (hc : a.eval c = .int .i64 (T : Int)) (h1 : T ≤ 1000000)
    (h : ∀ w', Row w' w0.heap.size (sa (fun _ => ⟨#[]⟩) T) 9 → w0.grownBy w' none → w'.heap.size = w0.heap.size + 1 → wpList Tryd.prog ops Q rest (a.put o.dst (.slice (some ⟨w0.heap.size, 0, none⟩) T T)) w') :
    wpList Tryd.prog ops Q (o :: rest) a w0 := by
  refine wpList_plain hgd fun K hK' => ?_
  unfold Oper.wp
  simp [execOp, ho, hl, hc, makeS_run T h1 w0, Result.andThen]
  exact hK' _ _ (h _ (heap_alloc_new w0 _) (World.grownBy_alloc w0 _ _) (by simp))
end Go.Proofs.YtpnnlhegncbfaaaDoor
namespace Go.Proofs.YtpnnlhegncbfaaaDoor
set_option maxRecDepth 20000
open Go.RowKit

/-- The texts of the codes up to the length k (those of that length up to the sign s). -/
def outTo (ls : List Nat) (k s : Nat) : Nat → ByteArray := fun i => if lenAt ls i ≠ 0 ∧ (lenAt ls i < k ∨ (lenAt ls i = k ∧ i < s)) then rowS (codeAt ls i) (lenAt ls i) else ⟨#[]⟩
theorem outTo_start (ls : List Nat) : outTo ls 1 0 = fun _ => ⟨#[]⟩ := by
  funext i; unfold outTo; rw [if_neg (by omega)]
theorem outTo_more {ls : List Nat} {k s : Nat} (hk : 1 ≤ k) (h : lenAt ls s = k) : outTo ls k (s + 1) = updS (outTo ls k s) s (rowS (codeAt ls s) k) := by
  funext i
  unfold outTo updS
  by_cases hi : i = s
  · subst hi; rw [if_pos (by omega), if_pos rfl, h]
  · rw [if_neg hi]
    show _ = if lenAt ls i ≠ 0 ∧ (lenAt ls i < k ∨ (lenAt ls i = k ∧ i < s)) then rowS (codeAt ls i) (lenAt ls i) else ⟨#[]⟩
    by_cases h1 : lenAt ls i ≠ 0 ∧ (lenAt ls i < k ∨ (lenAt ls i = k ∧ i < s))
    · rw [if_pos h1, if_pos (by omega)]
    · rw [if_neg h1, if_neg (by omega)]
theorem outTo_skip {ls : List Nat} {k s : Nat} (h : lenAt ls s ≠ k) : outTo ls k (s + 1) = outTo ls k s := by
  funext i
  unfold outTo
  by_cases hi : i = s
  · subst hi
    by_cases h1 : lenAt ls i ≠ 0 ∧ (lenAt ls i < k ∨ (lenAt ls i = k ∧ i < i))
    · rw [if_pos h1, if_pos (by omega)]
    · rw [if_neg h1, if_neg (by omega)]
  · by_cases h1 : lenAt ls i ≠ 0 ∧ (lenAt ls i < k ∨ (lenAt ls i = k ∧ i < s))
    · rw [if_pos h1, if_pos (by omega)]
    · rw [if_neg h1, if_neg (by omega)]
theorem outTo_next (ls : List Nat) (k : Nat) : outTo ls k ls.length = outTo ls (k + 1) 0 := by
  funext i
  unfold outTo
  by_cases h0 : lenAt ls i = 0
  · rw [if_neg (by omega), if_neg (by omega)]
  · have := lenAt_lt h0
    by_cases h1 : lenAt ls i ≤ k
    · rw [if_pos (by omega), if_pos (by omega)]
    · rw [if_neg (by omega), if_neg (by omega)]
/-- Each sign's code as a text. -/
def strAt (ls : List Nat) (i : Nat) : ByteArray := rowS (codeAt ls i) (lenAt ls i)
theorem outTo_end {ls : List Nat} (h : Low ls) : outTo ls 16 0 = strAt ls := by
  funext i
  unfold outTo strAt
  by_cases h0 : lenAt ls i = 0
  · rw [if_neg (by omega), h0]; rfl
  · rw [if_pos (by have := lenAt_low h i; omega)]
def onesF (c : Nat → Nat) (k r : Nat) : Nat := if k = 1 then r else c 1
def onesH (c : Nat → Nat) (k : Nat) : Nat := if k ≤ 1 then 0 else c 1
theorem ones_start (c : Nat → Nat) {k : Nat} (h : 1 ≤ k) : onesF c k 0 = onesH c k := by
  unfold onesF onesH
  by_cases h1 : k = 1
  · subst h1; rfl
  · rw [if_neg h1, if_neg (by omega)]
theorem ones_end (c : Nat → Nat) {k : Nat} (h : 1 ≤ k) : onesF c k (c k) = onesH c (k + 1) := by
  unfold onesF onesH
  by_cases h1 : k = 1
  · subst h1; rfl
  · rw [if_neg h1, if_neg (by omega)]
theorem nats_at {L : List Int} {k : Nat} {x : Int} (h : L[k]? = some x) (hx : 0 ≤ x) : x = (lenAt (nats L) k : Int) := by
  have : lenAt (nats L) k = x.toNat := by
    unfold lenAt nats
    rw [List.getD_eq_getElem?_getD, List.getElem?_map, h]; rfl
  omega
/-- What Codes leaves. -/
def Told (w : World) (L : List Int) (lone : Bool) (e : Ending) (w' : World) : Prop :=
  Below w.heap.size w w' ∧ (newE L lone ≠ 0 → e = .returned (.tuple #[.slice none 0 0, .int .i64 (newE L lone : Int)])) ∧
    (newE L lone = 0 → ∃ p, e = .returned (.tuple #[.slice (some ⟨p, 0, none⟩) L.length L.length, .int .i64 0]) ∧ w.heap.size ≤ p ∧ Row w' p (sa (strAt (nats L)) L.length) 9)
theorem Told.no {w w' : World} {L : List Int} {lone : Bool} {e : Ending} (k : Nat) (hk : newE L lone = k + 1) (hb : Below w.heap.size w w') (he : e = .returned (.tuple #[.slice none 0 0, .int .i64 ((k + 1 : Nat) : Int)])) : Told w L lone e w' :=
  ⟨hb, fun _ => by rw [hk]; exact he, fun h => by omega⟩
/-- Within Codes: the row of texts. -/
structure RcM (w wr : World) (p n : Nat) (f : Nat → ByteArray) : Prop where
  row : Row wr p (sa f n) 9
  below : Below w.heap.size w wr
  lt : w.heap.size ≤ p
theorem RcM.set {w wr : World} {p n : Nat} {f : Nat → ByteArray} (h : RcM w wr p n f) (i : Nat) (v : ByteArray) : RcM w (wr.setCell ⟨p, i, none⟩ (.string v)) p n (updS f i v) :=
  ⟨h.row.saSet i v, h.below.grown (grown_setCell _ _ _ _) h.below.size (fun k e => by injection e with e; have := h.lt; omega), h.lt⟩

set_option maxHeartbeats 4000000 in
theorem rcodes_any (A : Option Addr) (n c : Nat) (L : List Int) (lone : Bool) (w : World) (hr : Rd w w.heap.size A n (is L)) (hn : n ≤ 1000) :
    Calls Tryd.prog 63 #[.slice A n c, .bool lone] w (Told w L lone) := by
  have hl : L.length = n := by have := hr.1; rwa [is_length] at this
  have HR := Lib.hid hr
  have HL := Lib.hid hl
  have HN := Lib.hid hn
  clear hr
  by_cases hlong : 320 < n
  · have HE : RowKit.Hid (newE L lone = 2 + 1) := Lib.hid (by unfold newE; rw [if_pos (by rw [hl]; exact hlong)])
    have hd : decide ((320 : Int) < (n : Int)) = true := decide_eq_true (by omega)
    clear hl hn
    go_enter Tryd.func63, Tryd.ntmps63
    go_wp2_with fail
    go_ret2
    exact Told.no 2 HE.out (Below.refl _ _) rfl
  have hd : decide ((320 : Int) < (n : Int)) = false := decide_eq_false (by omega)
  have HLO : RowKit.Hid (¬ 320 < L.length) := Lib.hid (by rw [hl]; exact hlong)
  have hn320 : n ≤ 320 := by omega
  clear hl hlong hn
  go_enter Tryd.func63, Tryd.ntmps63
  go_wp2_with fail
  go_loopw [20] (fun i wr => ∃ k : Nat, k ≤ n ∧ i = .int .i64 (k : Int) ∧ rng (L.take k) ∧ wr = w) (fun i _ => n - (intOf i).toNat)
  case atStart => exact ⟨0, by omega, rfl, fun x hx => by simp at hx, rfl⟩
  case round =>
    obtain ⟨k, hk, rfl, hI, hwr⟩ := hrel
    replace hwr := hwr.symm
    subst hwr
    have HI := Lib.hid hI
    clear hI
    by_cases hkn : k < n
    · have hdk : decide ((k : Int) < (n : Int)) = true := decide_eq_true (by omega)
      obtain ⟨x, HX⟩ : ∃ x, RowKit.Hid (L[k]? = some x) := ⟨_, Lib.hid (List.getElem?_eq_getElem (by rw [HL.out]; exact hkn))⟩
      obtain ⟨b, o, rfl, _, hc⟩ := HR.out.atI HX.out
      by_cases hx : 0 ≤ x ∧ x ≤ 15
      · have d1 : decide (x < 0) = false := decide_eq_false (by omega)
        have d2 : decide (15 < x) = false := decide_eq_false (by omega)
        have HLow := Lib.hid (rng_take HI.out HX.out hx)
        clear hx
        go_wp2_with fail
        go_roundw
        case rel => exact ⟨k + 1, by omega, by simp, HLow.out, trivial⟩
        case measure => simp [intOf]; omega
      · have HE : RowKit.Hid (newE L lone = 0 + 1) := Lib.hid (by unfold newE; rw [if_neg HLO.out, if_pos (not_rng HX.out hx)])
        by_cases h0 : x < 0
        · have d1 : decide (x < 0) = true := decide_eq_true h0
          clear hx h0
          go_wp2_with fail
          go_ret2
          exact Told.no 0 HE.out (Below.refl _ _) rfl
        · have d1 : decide (x < 0) = false := decide_eq_false h0
          have d2 : decide (15 < x) = true := decide_eq_true (by omega)
          clear hx h0
          go_wp2_with fail
          go_ret2
          exact Told.no 0 HE.out (Below.refl _ _) rfl
    · obtain rfl : k = n := by omega
      have hdk : decide ((k : Int) < (k : Int)) = false := decide_eq_false (by omega)
      have hrng : rng L := by have := HI.out; rwa [List.take_of_length_le (by rw [HL.out]; exact Nat.le_refl _)] at this
      have HRG := Lib.hid hrng
      have HLW := Lib.hid (low_nats hrng)
      have HRL : RowKit.Hid (Rd w w.heap.size A k (ia (lenAt (nats L)) k).toList) := Lib.hid (by have := HR.out; rw [is_nats hrng, HL.out] at this; exact this)
      have HLL : RowKit.Hid ((nats L).length = k) := Lib.hid (by rw [nats_length, HL.out])
      have HNE : RowKit.Hid (newE L lone = if ¬ okF (cnt (nats L)) then 14 else if fst (cnt (nats L)) 16 = 65536 ∨ (lone = true ∧ loneF (cnt (nats L))) then 0 else 2) := Lib.hid (by unfold newE; rw [if_neg HLO.out, if_neg (not_not_intro hrng)])
      have HTD : RowKit.Hid (∀ w' p, newE L lone = 0 → Below w.heap.size w w' → w.heap.size ≤ p → Row w' p (sa (strAt (nats L)) k) 9 → Told w L lone (.returned (.tuple #[.slice (some ⟨p, 0, none⟩) k k, .int .i64 0])) w') :=
        Lib.hid (fun w' p h0 hb hp hr => ⟨hb, fun h => absurd h0 h, fun _ => ⟨p, by rw [HL.out], hp, by rw [HL.out]; exact hr⟩⟩)
      clear hrng HR HI HL HLO
      obtain ⟨ls, HLS⟩ : ∃ ls, RowKit.Hid (nats L = ls) := ⟨_, Lib.hid rfl⟩
      rw [HLS.out] at HLW HRL HLL HNE HTD
      have HCB : RowKit.Hid (∀ q, cnt ls q ≤ 1000) := Lib.hid (fun q => Nat.le_trans (cnt_le _ _) (by rw [HLL.out]; exact HN.out))
      go_wp2_with (with_reducible refine makeS _ rfl _ _ rfl k rfl rfl (by omega) ?_)
      intro w1 r1 g1 s1
      have HM : RowKit.Hid (RcM w w1 w.heap.size k (outTo ls 1 0)) := Lib.hid ⟨by rw [outTo_start]; exact r1, below_make g1, Nat.le_refl _⟩
      clear r1 g1 s1
      generalize hp : w.heap.size = p at HM ⊢
      clear hp
      go_wp2_with fail
      go_loopw [9, 10, 11, 12, 13] (fun nx us mn on i wq => ∃ q N : Nat, 1 ≤ q ∧ q ≤ 16 ∧ nx = .int .i64 (N : Int) ∧ us = .int .i64 ((N * 2 ^ (16 - q) : Nat) : Int) ∧ mn = .int .i64 (st (cnt ls) q : Int) ∧ on = .int .i64 (onesH (cnt ls) q : Int) ∧ i = .int .i64 (q : Int) ∧ fst (cnt ls) q = 2 * N ∧ okTo (cnt ls) q ∧ RcM w wq p k (outTo ls q 0)) (fun _ _ _ _ i _ => 16 - (intOf i).toNat)
      case atStart => exact ⟨1, 0, by omega, by omega, rfl, by simp, rfl, rfl, rfl, rfl, fun j hj => by left; omega, HM.out⟩
      case round =>
        clear HM
        obtain ⟨q, N, hq1, hq, rfl, rfl, rfl, rfl, rfl, hfN, hok, hM⟩ := hrel
        have HM := Lib.hid hM
        have HOK := Lib.hid hok
        have HFN := Lib.hid hfN
        clear hM hok hfN
        by_cases hq15 : q ≤ 15
        · have hdq : decide ((q : Int) ≤ 15) = true := decide_eq_true (by omega)
          have hF := fst_low HOK.out hq15
          have hSt := st_bound HCB.out q
          have hS2 : st (cnt ls) q ≤ 16000 := by omega
          have hon : onesH (cnt ls) q ≤ 1000 := by unfold onesH; split; omega; exact HCB.out 1
          obtain ⟨F, HFF⟩ : ∃ F, RowKit.Hid (fst (cnt ls) q = F) := ⟨_, Lib.hid rfl⟩
          rw [HFF.out] at hF
          have hN2 : N ≤ 32768 := by have := HFN.out; rw [HFF.out] at this; omega
          have HUS : RowKit.Hid (N * 2 ^ (16 - q) = F * 2 ^ (15 - q)) := Lib.hid (by
            have := HFN.out
            rw [HFF.out] at this
            rw [this, show 16 - q = (15 - q) + 1 by omega, Nat.pow_succ, Nat.mul_comm 2 N, Nat.mul_assoc, Nat.mul_comm 2])
          have hFN2 : (N : Int) * 2 = (F : Int) := by have := HFN.out; rw [HFF.out] at this; omega
          rw [HUS.out]
          go_wp2_with fail
          have HOS := Lib.hid (ones_start (cnt ls) hq1)
          rw [← HOS.out]
          clear HOS hon hFN2 hN2 HUS
          have hP : 2 ^ q ≤ 32768 := by have := Nat.pow_le_pow_right (show 0 < 2 by decide) hq15; simpa using this
          have hE : 2 ^ (15 - q) ≤ 32768 := by have := Nat.pow_le_pow_right (show 0 < 2 by decide) (show 15 - q ≤ 15 by omega); simpa using this
          have HPE : RowKit.Hid (2 ^ q * 2 ^ (15 - q) = 32768) := Lib.hid (by rw [← Nat.pow_add, show q + (15 - q) = 15 by omega])
          have HF0 : RowKit.Hid (F ≤ 2 ^ q) := Lib.hid (by
            rw [← HFF.out]
            rcases q with _ | _ | q
            · omega
            · simp [fst]
            · rw [fst_succ _ (by omega)]
              rcases HOK.out (q + 1) (by omega) with h0 | h0
              · omega
              · rw [Nat.pow_succ]; omega)
          go_loopw [9, 10, 11, 12, 14] (fun nx us mn on i wq => ∃ t : Nat, t ≤ k ∧ nx = .int .i64 ((F + cnt (ls.take t) q : Nat) : Int) ∧ us = .int .i64 (((F + cnt (ls.take t) q) * 2 ^ (15 - q) : Nat) : Int) ∧ mn = .int .i64 ((st (cnt ls) q + cnt (ls.take t) q : Nat) : Int) ∧ on = .int .i64 (onesF (cnt ls) q (cnt (ls.take t) q) : Int) ∧ i = .int .i64 (t : Int) ∧ F + cnt (ls.take t) q ≤ 2 ^ q ∧ RcM w wq p k (outTo ls q t)) (fun _ _ _ _ i _ => k - (intOf i).toNat)
          case atStart => exact ⟨0, by omega, rfl, rfl, rfl, rfl, rfl, HF0.out, HM.out⟩
          case round =>
            clear HM
            obtain ⟨t, ht, rfl, rfl, rfl, rfl, rfl, hle, hM⟩ := hrel
            have HM := Lib.hid hM
            clear hM
            by_cases htk : t < k
            · have hdt : decide ((t : Int) < (k : Int)) = true := decide_eq_true (by omega)
              obtain ⟨b, o, rfl, _, hc⟩ := (HRL.out.below HM.out.below).ia htk
              have htl : t < ls.length := by rw [HLL.out]; exact htk
              by_cases hv : lenAt ls t = q
              · rw [hv] at hc
                have hne : ((q : Int) != (q : Int)) = false := by simp
                have HCS : RowKit.Hid (cnt (ls.take (t + 1)) q = cnt (ls.take t) q + 1) := Lib.hid (by rw [cnt_take_succ htl, if_pos hv])
                have HCD : RowKit.Hid (codeAt ls t = F + cnt (ls.take t) q) := Lib.hid (by rw [code_eq (by omega), hv, HFF.out]; unfold rank; rw [hv])
                have HOM := Lib.hid (outTo_more hq1 hv)
                have HCL : RowKit.Hid (cnt (ls.take t) q + 1 ≤ cnt ls q) := Lib.hid (by have := cnt_take_le ls (t + 1) q; rw [HCS.out] at this; exact this)
                rw [HCD.out] at HOM
                have hcb := Nat.le_trans (cnt_take_le ls t q) (HCB.out q)
                have hob : onesF (cnt ls) q (cnt (ls.take t) q) ≤ 1000 := by unfold onesF; split; exact hcb; exact HCB.out 1
                have HON : RowKit.Hid (q = 1 → onesF (cnt ls) q (cnt (ls.take t) q + 1) = onesF (cnt ls) q (cnt (ls.take t) q) + 1) := Lib.hid (fun h => by unfold onesF; rw [if_pos h, if_pos h])
                have HON2 : RowKit.Hid (q ≠ 1 → onesF (cnt ls) q (cnt (ls.take t) q + 1) = onesF (cnt ls) q (cnt (ls.take t) q)) := Lib.hid (fun h => by unfold onesF; rw [if_neg h, if_neg h])
                have HXX : RowKit.Hid ((F + (cnt (ls.take t) q + 1)) * 2 ^ (15 - q) = (F + cnt (ls.take t) q) * 2 ^ (15 - q) + 2 ^ (15 - q)) := Lib.hid (by rw [← Nat.add_assoc, Nat.add_mul, Nat.one_mul])
                have hUb : (F + cnt (ls.take t) q) * 2 ^ (15 - q) ≤ 32768 := by rw [← HPE.out]; exact Nat.mul_le_mul_right _ hle
                generalize onesF (cnt ls) q (cnt (ls.take t) q) = O at hob HON HON2 ⊢
                generalize (F + cnt (ls.take t) q) * 2 ^ (15 - q) = U at hUb HXX ⊢
                have HMN : RowKit.Hid (st (cnt ls) q + (cnt (ls.take t) q + 1) = st (cnt ls) q + cnt (ls.take t) q + 1) := Lib.hid (by omega)
                have hmb : st (cnt ls) q + cnt (ls.take t) q ≤ 17000 := by omega
                generalize st (cnt ls) q + cnt (ls.take t) q = Mn at HMN hmb ⊢
                have HXN : RowKit.Hid (F + (cnt (ls.take t) q + 1) = F + cnt (ls.take t) q + 1) := Lib.hid (by omega)
                generalize F + cnt (ls.take t) q = X at hle HOM HXN ⊢
                obtain ⟨P, hP2⟩ : ∃ P, 2 ^ q = P := ⟨_, rfl⟩
                have hPi : (2 : Int) ^ q = (P : Int) := by rw [← hP2]; simp
                obtain ⟨d, hdq2⟩ : ∃ d, 15 - q = d := ⟨_, rfl⟩
                have hdi : (15 : Int) - (q : Int) = (d : Int) := by omega
                have hd15 : d ≤ 15 := by omega
                rw [hdq2] at hE
                obtain ⟨E, hE2⟩ : ∃ E, 2 ^ d = E := ⟨_, rfl⟩
                have hEi : (2 : Int) ^ d = (E : Int) := by rw [← hE2]; simp
                rw [hE2] at hE
                have HEE : RowKit.Hid (2 ^ (15 - q) = E) := Lib.hid (by rw [hdq2, hE2])
                rw [hP2] at hP hle
                have hXb : X ≤ 32768 := by omega
                by_cases hov : P ≤ X
                · have d1 : decide ((P : Int) ≤ (X : Int)) = true := decide_eq_true (by omega)
                  have HE14 : RowKit.Hid (newE L lone = 13 + 1) := Lib.hid (by
                    rw [HNE.out, if_pos]
                    intro hh
                    rcases hh q (by omega) with h3 | h3
                    · omega
                    · have h4 := HCL.out
                      have h5 := HXN.out
                      rw [HFF.out, hP2] at h3
                      omega)
                  clear hP2 hdq2 hE2 hv htl
                  go_wp2_with fail
                  go_ret2
                  exact Told.no 13 HE14.out HM.out.below rfl
                · have d1 : decide ((P : Int) ≤ (X : Int)) = false := decide_eq_false (by omega)
                  have c2 := HM.out.row.sa htk
                  have c3 := HM.out.row.thawed t
                  generalize outTo ls q t t = yy at c2
                  have HW := Lib.hid (HM.out.set t (rowS X q))
                  rw [← HOM.out] at HW
                  have HLE : RowKit.Hid (X + 1 ≤ 2 ^ q) := Lib.hid (by rw [hP2]; omega)
                  have hov2 : ¬ P ≤ X := hov
                  clear hP2 hdq2 hE2 hv htl
                  go_wp2_with fail
                  refine (rrow_any X q wr (by omega) (by omega)).mono ?_
                  rintro e w5 ⟨rfl, rfl⟩
                  generalize rowS X q = str at HW ⊢
                  by_cases hq1' : q = 1
                  · have d4 : ((q : Int) == 1) = true := by rw [beq_iff_eq]; omega
                    have HONE := Lib.hid (HON.out hq1')
                    clear hq1'
                    go_wp2_with fail
                    go_roundw
                    case rel => exact ⟨t + 1, by omega, by rw [HCS.out, HXN.out]; simp, by rw [HCS.out, HXX.out, HEE.out]; simp, by rw [HCS.out, HMN.out]; simp, by rw [HCS.out, HONE.out]; simp, by simp, by rw [HCS.out, HXN.out]; exact HLE.out, HW.out⟩
                    case measure => simp [intOf]; omega
                  · have d4 : ((q : Int) == 1) = false := by rw [beq_eq_false_iff_ne]; omega
                    have HONE := Lib.hid (HON2.out hq1')
                    clear hq1'
                    go_wp2_with fail
                    go_roundw
                    case rel => exact ⟨t + 1, by omega, by rw [HCS.out, HXN.out]; simp, by rw [HCS.out, HXX.out, HEE.out]; simp, by rw [HCS.out, HMN.out]; simp, by rw [HCS.out, HONE.out], by simp, by rw [HCS.out, HXN.out]; exact HLE.out, HW.out⟩
                    case measure => simp [intOf]; omega
              · have hne : ((lenAt ls t : Int) != (q : Int)) = true := by rw [bne_iff_ne]; omega
                have HCS : RowKit.Hid (cnt (ls.take (t + 1)) q = cnt (ls.take t) q) := Lib.hid (by rw [cnt_take_succ htl, if_neg hv]; rfl)
                have HOM := Lib.hid (outTo_skip hv)
                generalize lenAt ls t = vv at hc hne
                have HLE := Lib.hid hle
                clear hv htl
                go_wp2_with fail
                go_roundw
                case rel => exact ⟨t + 1, by omega, by rw [HCS.out], by rw [HCS.out], by rw [HCS.out], by rw [HCS.out], by simp, by rw [HCS.out]; exact HLE.out, by rw [HOM.out]; exact HM.out⟩
                case measure => simp [intOf]; omega
            · obtain rfl : t = k := by omega
              have hdt : decide ((t : Int) < (t : Int)) = false := decide_eq_false (by omega)
              rw [show ls.take t = ls from List.take_of_length_le (by rw [HLL.out]; exact Nat.le_refl _)] at hle ⊢
              have HFS : RowKit.Hid (fst (cnt ls) (q + 1) = 2 * (F + cnt ls q)) := Lib.hid (by rw [fst_succ _ hq1, HFF.out])
              have HSS : RowKit.Hid (st (cnt ls) (q + 1) = st (cnt ls) q + cnt ls q) := Lib.hid (st_succ _ hq1)
              have HOE := Lib.hid (ones_end (cnt ls) hq1)
              have HOK2 := Lib.hid (okTo_succ HOK.out (by rw [HFF.out]; exact hle))
              have HM2 : RowKit.Hid (RcM w wr p t (outTo ls (q + 1) 0)) := Lib.hid (by rw [← outTo_next, HLL.out]; exact HM.out)
              have HUU : RowKit.Hid ((F + cnt ls q) * 2 ^ (16 - (q + 1)) = (F + cnt ls q) * 2 ^ (15 - q)) := Lib.hid (by rw [show 16 - (q + 1) = 15 - q by omega])
              clear HM hle
              go_wp2_with fail
              go_roundw
              case rel => exact ⟨q + 1, F + cnt ls q, by omega, by omega, rfl, by rw [HUU.out], by rw [HSS.out], by rw [HOE.out], by simp, HFS.out, HOK2.out, HM2.out⟩
              case measure => simp [intOf]; omega
        · obtain rfl : q = 16 := by omega
          have hdq : decide (((16 : Nat) : Int) ≤ 15) = false := rfl
          have hrow := HM.out.row
          rw [outTo_end HLW.out] at hrow
          have HRow := Lib.hid hrow
          have hUN : N * 2 ^ (16 - 16) = N := by simp
          rw [hUN]
          have HNE2 : RowKit.Hid (newE L lone = if N = 32768 ∨ (lone = true ∧ loneF (cnt ls)) then 0 else 2) := Lib.hid (by
            rw [HNE.out, if_neg (not_not_intro (show okF (cnt ls) from HOK.out)), HFN.out]
            by_cases h : N = 32768
            · rw [if_pos (.inl (by omega)), if_pos (.inl h)]
            · by_cases h2 : lone = true ∧ loneF (cnt ls)
              · rw [if_pos (.inr h2), if_pos (.inr h2)]
              · rw [if_neg (fun h3 => by rcases h3 with h3 | h3; omega; exact h2 h3), if_neg (fun h3 => by rcases h3 with h3 | h3; exact h h3; exact h2 h3)])
          have HLN : RowKit.Hid (loneF (cnt ls) ↔ (st (cnt ls) 16 = 0 ∨ (st (cnt ls) 16 = 1 ∧ onesH (cnt ls) 16 = 1))) := Lib.hid Iff.rfl
          generalize st (cnt ls) 16 = M at HLN ⊢
          generalize onesH (cnt ls) 16 = O at HLN ⊢
          clear hUN hrow
          by_cases hN : N = 32768
          · have d1 : ((N : Int) != 32768) = false := by rw [bne_eq_false_iff_eq]; omega
            have HZ : RowKit.Hid (newE L lone = 0) := Lib.hid (by rw [HNE2.out, if_pos (.inl hN)])
            clear hN HNE2
            go_wp2_with fail
            go_ret2
            exact HTD.out wr p HZ.out HM.out.below HM.out.lt HRow.out
          · have d1 : ((N : Int) != 32768) = true := by rw [bne_iff_ne]; omega
            cases lone with
            | false =>
              have HE : RowKit.Hid (newE L false = 1 + 1) := Lib.hid (by rw [HNE2.out, if_neg (by simp [hN])])
              clear hN HNE2
              go_wp2_with fail
              go_ret2
              exact Told.no 1 HE.out HM.out.below rfl
            | true =>
              by_cases hM0 : M = 0
              · have d2 : ((M : Int) == 0) = true := by rw [beq_iff_eq]; omega
                have HZ : RowKit.Hid (newE L true = 0) := Lib.hid (by rw [HNE2.out, if_pos (.inr ⟨rfl, HLN.out.2 (.inl hM0)⟩)])
                clear hN hM0 HNE2
                go_wp2_with fail
                go_ret2
                exact HTD.out wr p HZ.out HM.out.below HM.out.lt HRow.out
              · have d2 : ((M : Int) == 0) = false := by rw [beq_eq_false_iff_ne]; omega
                by_cases hM1 : M = 1
                · have d3 : ((M : Int) == 1) = true := by rw [beq_iff_eq]; omega
                  by_cases hO : O = 1
                  · have d4 : ((O : Int) == 1) = true := by rw [beq_iff_eq]; omega
                    have HZ : RowKit.Hid (newE L true = 0) := Lib.hid (by rw [HNE2.out, if_pos (.inr ⟨rfl, HLN.out.2 (.inr ⟨hM1, hO⟩)⟩)])
                    clear hN hM0 hM1 hO HNE2
                    go_wp2_with fail
                    go_ret2
                    exact HTD.out wr p HZ.out HM.out.below HM.out.lt HRow.out
                  · have d4 : ((O : Int) == 1) = false := by rw [beq_eq_false_iff_ne]; omega
                    have HE : RowKit.Hid (newE L true = 1 + 1) := Lib.hid (by rw [HNE2.out, if_neg (fun h => by rcases h with h | h; exact hN h; have := HLN.out.1 h.2; omega)])
                    clear hN hM0 hM1 hO HNE2
                    go_wp2_with fail
                    go_ret2
                    exact Told.no 1 HE.out HM.out.below rfl
                · have d3 : ((M : Int) == 1) = false := by rw [beq_eq_false_iff_ne]; omega
                  have HE : RowKit.Hid (newE L true = 1 + 1) := Lib.hid (by rw [HNE2.out, if_neg (fun h => by rcases h with h | h; exact hN h; have := HLN.out.1 h.2; omega)])
                  clear hN hM0 hM1 HNE2
                  go_wp2_with fail
                  go_ret2
                  exact Told.no 1 HE.out HM.out.below rfl
end Go.Proofs.YtpnnlhegncbfaaaDoor
