/- Contracts of the reference's Of, Put, Text and Number. -/
import Derived.Test.YtafipnhpoopljaaWmt
namespace Go.Proofs.Ytafipnhpoopljaa
open Go.RowKit

/-- What a loop keeps: the row that grows, and that nothing old has turned. -/
structure Grows (w : World) (v : Value) (l : List UInt8) (wr : World) : Prop where
  own : Own wr w.heap.size v l
  below : Below w.heap.size w wr
theorem Grows.size {w wr : World} {v : Value} {l : List UInt8} (h : Grows w v l wr) : w.heap.size ≤ wr.heap.size := h.below.size
theorem Grows.push {w wr w' : World} {v v' : Value} {l l' : List UInt8} (h : Grows w v l wr) (ho : Own w' w.heap.size v' l') (hg : wr.grownBy w' v.ownBlock) : Grows w v' l' w' :=
  ⟨ho, h.own.grown hg h.below h.size⟩
theorem Grows.rd {w wr : World} {v : Value} {l : List UInt8} (h : Grows w v l wr) {A : Option Addr} {n : Nat} {xs : List Value} (hr : Rd w w.heap.size A n xs) : Rd wr w.heap.size A n xs := hr.below h.below
theorem Grows.start (w : World) : Grows w (.slice (some ⟨w.heap.size, 0, none⟩) 0 0) [] (w.alloc (.cells #[] 5)) :=
  ⟨Own.lit w #[] [] 0 rfl rfl (by decide), (Below.refl _ _).alloc (Nat.le_refl _) _⟩

theorem bit8 (x : UInt8) (k : Nat) : bits .and .u8 ((x.toNat : Int) / 2 ^ k) 1 = ((bitN x.toNat k).toNat : Int) := by
  have h1 : (x.toNat : Int) / 2 ^ k = ((x.toNat / 2 ^ k : Nat) : Int) := by simp
  have hlt : x.toNat / 2 ^ k < 256 := Nat.lt_of_le_of_lt (Nat.div_le_self _ _) x.toNat_lt
  rw [h1, bitN_toNat]
  have := u8_and_nat (x.toNat / 2 ^ k) 1 hlt (by decide)
  rw [Nat.and_one_is_mod] at this
  exact this

set_option maxHeartbeats 400000 in
theorem rof_any (A : Option Addr) (n c : Nat) (l : List UInt8) (w : World) (hr : Rd w w.heap.size A n (us l)) (hn : n ≤ 100000) :
    Calls Try.prog 9 #[.slice A n c] w fun e w' => ∃ v, e = .returned v ∧ Grows w v (bitsL l) w' := by
  have hl : l.length = n := by have := hr.1; rwa [us_length] at this
  have HR := Lib.hid hr
  have HL := Lib.hid hl
  clear hr hl
  go_enter Try.func9, Try.ntmps9
  go_wp2_with fail
  have HG := Lib.hid (Grows.start w)
  generalize (Value.slice (some ⟨w.heap.size, 0, none⟩) 0 0) = v0 at HG ⊢
  generalize w.alloc (.cells #[] 5) = w0 at HG ⊢
  go_loopw [3, 4] (fun v i wr => ∃ k : Nat, k ≤ n ∧ i = .int .i64 k ∧ Grows w v (bitsL (l.take k)) wr) (fun _ i _ => n - (intOf i).toNat)
  case atStart => exact ⟨0, by omega, rfl, HG.out⟩
  case round =>
    clear HG
    obtain ⟨k, hk, rfl, hG⟩ := hrel
    have HG := Lib.hid hG
    clear hG
    by_cases hlt : k < n
    · have hdk : decide ((k : Int) < (n : Int)) = true := decide_eq_true (by omega)
      obtain ⟨x, hx⟩ : ∃ x, l[k]? = some x := ⟨_, List.getElem?_eq_getElem (by rw [HL.out]; exact hlt)⟩
      have HX := Lib.hid hx
      clear hx
      go_wp2_with fail
      go_loopw [3, 5] (fun v i wq => ∃ j : Nat, j ≤ 8 ∧ i = .int .i64 j ∧ Grows w v (bitsL (l.take k) ++ lowB x.toNat j) wq) (fun _ i _ => 8 - (intOf i).toNat)
      case atStart => exact ⟨0, by omega, rfl, by simpa [lowB] using HG.out⟩
      case round =>
        clear HG
        obtain ⟨j, hj, rfl, hG⟩ := hrel
        have HG := Lib.hid hG
        clear hG
        by_cases hjt : j < 8
        · have hdj : decide ((j : Int) < 8) = true := decide_eq_true (by omega)
          obtain ⟨g, o, x', rfl, hg, hx', hc⟩ := (HG.out.rd HR.out).at8 hlt
          have hxx : x' = x := by have := HX.out; rw [hx'] at this; injection this
          subst hxx
          have e1 := bit8 x' j
          have hlen : (bitsL (l.take k) ++ lowB x'.toNat j).length + 1 ≤ 1000000 := by
            rw [List.length_append, bitsL_length, List.length_take, lowB_length]; omega
          have HN := Lib.hid hlen
          clear hlen hx'
          go_wp2_with (at_builtin; refine push8 wr rfl (.tmp 17) (.tmp 26) rfl w.heap.size u3 _ [bitN x'.toNat j] _ 1 rfl rfl HG.out.own rfl rfl HG.out.size HN.out ?_)
          intro v' w' ho hg' _
          have HG2 := Lib.hid (HG.out.push ho hg')
          clear ho hg'
          go_wp2_with fail
          go_roundw
          case rel => exact ⟨j + 1, by omega, by go_num, by rw [lowB_succ, ← List.append_assoc]; simpa using HG2.out⟩
          case measure => simp [intOf]; omega
        · have hj8 : j = 8 := by omega
          subst hj8
          have hdj : decide (((8 : Nat) : Int) < 8) = false := rfl
          have HG2 : RowKit.Hid (Grows w u3 (bitsL (l.take (k + 1))) wr) := Lib.hid (by rw [take_more HX.out, bitsL_append, bitsL_one]; exact HG.out)
          clear HG
          go_wp2_with fail
          go_roundw
          case rel => exact ⟨k + 1, by omega, by go_num, HG2.out⟩
          case measure => simp [intOf]; omega
    · have hkn : k = n := by omega
      subst hkn
      rw [List.take_of_length_le (by rw [HL.out]; omega)] at HG
      have hdk : decide ((k : Int) < (k : Int)) = false := decide_eq_false (by omega)
      go_wp2_with fail
      go_ret
      exact ⟨u3, rfl, HG.out⟩

theorem bit32 (x k : Nat) (hx : x < 4294967296) : bits .and .u32 ((x : Int) / 2 ^ k) 1 % 256 = ((bitN x k).toNat : Int) := by
  have h1 : (x : Int) / 2 ^ k = ((x / 2 ^ k : Nat) : Int) := by simp
  have hlt : x / 2 ^ k < 4294967296 := Nat.lt_of_le_of_lt (Nat.div_le_self _ _) hx
  rw [h1, bitN_toNat]
  have := u32_and_nat (x / 2 ^ k) 1 hlt (by decide)
  rw [Nat.and_one_is_mod] at this
  rw [show (1 : Int) = ((1 : Nat) : Int) from rfl, this]
  omega

/-- The bits that are put, the first j of them. -/
def putJ (high : Bool) (x n j : Nat) : List UInt8 := if high = true then (lowB x n).reverse.take j else lowB x j
theorem putJ_more (high : Bool) (x n j : Nat) (h : j < n) : putJ high x n (j + 1) = putJ high x n j ++ [bitN x (if high = true then n - 1 - j else j)] := by
  cases high with
  | true => simp only [putJ, if_true]; rw [take_more (rev_at x n j h)]
  | false => simp [putJ, lowB_succ]
theorem putJ_length (high : Bool) (x n j : Nat) (h : j ≤ n) : (putJ high x n j).length = j := by
  cases high with
  | true => simp [putJ, lowB_length]; omega
  | false => simp [putJ, lowB_length]
theorem putJ_all (high : Bool) (x n : Nat) (k : Int) (hk : k = (n : Int)) (h : okP x k = true) : putJ high x n n = putB high x k := by
  subst hk
  cases high with
  | true => rw [putB_high h]; simp only [putJ, if_true, Int.toNat_natCast]; rw [List.take_of_length_le (by simp [lowB_length])]
  | false => rw [putB_low h]; simp [putJ]
theorem putJ_zero (high : Bool) (x n : Nat) : putJ high x n 0 = [] := by cases high <;> simp [putJ, lowB]

set_option maxHeartbeats 1000000 in
theorem rput_any (B : Nat) (A : Option Addr) (n c : Nat) (m : List UInt8) (x : Nat) (k : Int) (high : Bool) (w : World) (ho : Own w B (.slice A n c) m) (hB : B ≤ w.heap.size) (hx : x < 4294967296) (hL : m.length ≤ 100000) :
    Calls Try.prog 23 #[.slice A n c, .int .u32 (x : Int), .int .i64 k, .bool high] w fun e w' => ∃ v, e = .returned (.tuple #[v, .int .i64 (putE x k : Int)]) ∧ Own w' B v (m ++ putB high x k) ∧ (v = .slice A n c ∨ ∀ b, v.ownBlock = some b → w.heap.size ≤ b) ∧ w.grownBy w' none := by
  have HO := Lib.hid ho
  have HB := Lib.hid hB
  clear ho hB
  by_cases hok : okP x k = true
  · have h := of_decide_eq_true hok
    obtain ⟨q, rfl⟩ : ∃ q : Nat, k = (q : Int) := ⟨k.toNat, by omega⟩
    rw [putE_ok hok, ← putJ_all high x q q rfl hok]
    simp only [Int.toNat_natCast] at h
    have hq : q ≤ 32 := by omega
    have h1 : decide ((q : Int) < 0) = false := decide_eq_false (by omega)
    have h2 : decide (32 < (q : Int)) = false := decide_eq_false (by omega)
    have h3 : ((x : Int) / 2 ^ q != 0) = false := by
      rw [bne_eq_false_iff_eq]
      have := Nat.div_eq_of_lt h.2.2
      exact_mod_cast this
    clear h hok
    have HA := Lib.hid (noCap HO.out)
    have HR := Lib.hid HO.out.rd
    have HG0 := Lib.hid (Grows.start w)
    have hmn : m.length = n := HO.out.rd.1.symm
    have hnb : n ≤ 100000 := by omega
    have HMN := Lib.hid hmn
    clear hmn
    go_enter Try.func23, Try.ntmps23
    go_wp2_with (at_builtin; refine cat8 (w.alloc (.cells #[] 5)) rfl (.tmp 27) (.tmp 28) rfl w.heap.size w.heap.size _ [] m A n c rfl rfl HG0.out.own (HR.out.2.below HG0.out.below) HA.out (by simp) (by simp; omega) ?_)
    intro v1 w1 ho1 hg1 _
    have HG := Lib.hid (show Grows w v1 (m ++ putJ high x q 0) w1 by rw [putJ_zero, List.append_nil]; exact HG0.out.push ho1 hg1)
    clear ho1 hg1
    go_wp2_with fail
    go_loopw [0, 10] (fun v i wr => ∃ j : Nat, j ≤ q ∧ i = .int .i64 j ∧ Grows w v (m ++ putJ high x q j) wr) (fun _ i _ => q - (intOf i).toNat)
    case atStart => exact ⟨0, by omega, rfl, HG.out⟩
    case round =>
      clear HG
      obtain ⟨j, hj, rfl, hG⟩ := hrel
      have HG := Lib.hid hG
      clear hG
      by_cases hjt : j < q
      · have hdj : decide ((j : Int) < (q : Int)) = true := decide_eq_true (by omega)
        have hlen : (m ++ putJ high x q j).length + 1 ≤ 1000000 := by
          rw [List.length_append, putJ_length _ _ _ _ hj]; omega
        have HN := Lib.hid hlen
        have HM := Lib.hid (putJ_more high x q j hjt)
        clear hlen
        cases high with
        | true =>
          obtain ⟨s, hs⟩ : ∃ s, q - 1 - j = s := ⟨_, rfl⟩
          have hsi : (q : Int) - 1 - (j : Int) = (s : Int) := by omega
          have hs32 : s ≤ 32 := by omega
          simp only [if_true] at HM
          rw [hs] at HM
          have e1 := bit32 x s hx
          clear hs
          go_wp2_with (at_builtin; refine push8 wr rfl (.tmp 41) (.tmp 48) rfl w.heap.size u0 _ [bitN x s] _ 1 rfl rfl HG.out.own rfl rfl HG.out.size HN.out ?_)
          intro v' w' ho hg' _
          have HG2 := Lib.hid (HG.out.push ho hg')
          clear ho hg'
          go_wp2_with fail
          go_roundw
          case rel => exact ⟨j + 1, by omega, by go_num, by rw [HM.out]; exact HG2.out⟩
          case measure => simp [intOf]; omega
        | false =>
          simp only [Bool.false_eq_true, if_false] at HM
          have e1 := bit32 x j hx
          go_wp2_with (at_builtin; refine push8 wr rfl (.tmp 41) (.tmp 48) rfl w.heap.size u0 _ [bitN x j] _ 1 rfl rfl HG.out.own rfl rfl HG.out.size HN.out ?_)
          intro v' w' ho hg' _
          have HG2 := Lib.hid (HG.out.push ho hg')
          clear ho hg'
          go_wp2_with fail
          go_roundw
          case rel => exact ⟨j + 1, by omega, by go_num, by rw [HM.out]; exact HG2.out⟩
          case measure => simp [intOf]; omega
      · have hjn : j = q := by omega
        subst hjn
        have hdj : decide ((j : Int) < (j : Int)) = false := decide_eq_false (by omega)
        go_wp2_with fail
        go_ret2
        refine ⟨u0, rfl, ?_, .inr fun b hb => (World.ownsRow.lt HG.out.own b hb).1, grown_of_below HG.out.below⟩
        refine ⟨HG.out.own.1, ?_⟩
        rcases HG.out.own.2 with h1 | ⟨g, cap, cur, h1, h2, h3⟩
        · exact .inl h1
        · exact .inr ⟨g, cap, cur, h1, Nat.le_trans HB.out h2, h3⟩
  · have hno : okP x k = false := by simpa using hok
    rw [putE_no hno, putB_no hno, List.append_nil]
    by_cases h1 : k < 0
    · have d1 : decide (k < 0) = true := decide_eq_true h1
      go_enter Try.func23, Try.ntmps23
      go_wp2_with fail
      go_ret2
      exact ⟨_, rfl, HO.out, .inl rfl, World.grownBy.refl _ _⟩
    · have d1 : decide (k < 0) = false := decide_eq_false h1
      by_cases h2 : 32 < k
      · have d2 : decide (32 < k) = true := decide_eq_true h2
        go_enter Try.func23, Try.ntmps23
        go_wp2_with fail
        go_ret2
        exact ⟨_, rfl, HO.out, .inl rfl, World.grownBy.refl _ _⟩
      · have d2 : decide (32 < k) = false := decide_eq_false h2
        obtain ⟨q, rfl⟩ : ∃ q : Nat, k = (q : Int) := ⟨k.toNat, by omega⟩
        have h3 : ((x : Int) / 2 ^ q != 0) = true := by
          rw [bne_iff_ne]
          unfold okP at hno
          have := of_decide_eq_false hno
          simp only [Int.toNat_natCast] at this
          have hp := Nat.div_pos (show 2 ^ q ≤ x by omega) (Nat.two_pow_pos q)
          have h4 : x / 2 ^ q ≠ 0 := by omega
          exact_mod_cast h4
        have hq : q ≤ 32 := by omega
        clear hno hok h1 h2
        go_enter Try.func23, Try.ntmps23
        go_wp2_with fail
        go_ret2
        exact ⟨_, rfl, HO.out, .inl rfl, World.grownBy.refl _ _⟩

/-- make([]byte, T) -/
theorem make8f {ops : Array Oper} {rest : List Oper} {o : Oper} {a : Act} {Q : Exit → Act → World → Prop} (w0 : World) (hgd : o.guard = none) (l c : Operand)
    (ho : o.op = Op.makeSlice 22 l c) (C : Int) (hl : a.eval l = .int .i64 C) (hc : a.eval c = .int .i64 C) (T : Nat) (hT : C = (T : Int)) (h1 : T ≤ 1000000)
    (h : ∀ w', Own w' w0.heap.size (.slice (some ⟨w0.heap.size, 0, none⟩) T T) (List.replicate T 0) → w0.grownBy w' none → wpList Try.prog ops Q rest (a.put o.dst (.slice (some ⟨w0.heap.size, 0, none⟩) T T)) w') :
    wpList Try.prog ops Q (o :: rest) a w0 := by
  obtain ⟨i0, hi, hz0, hz1, hz2⟩ := info_parts info5
  refine wpList_make_full w0 hgd l c 22 ho w0.heap.size 5 i0 (.int .u8 0) 1 Try.underlying22 hi hz0 hz1 .i64 .i64 C C T hl hc hT hT (by rw [hz2]; omega) (by unfold maxLen; omega) (Nat.le_refl _) (fun w' h1 h2 => h w' ?_ h2)
  unfold Own
  rw [List.length_replicate, show us (List.replicate T 0) = List.replicate T (.int .u8 0) by simp [us]]
  rw [Nat.mul_one, show (Value.int .u8 0).cells = #[.int .u8 0] from rfl, toList_madeCells_one] at h1
  exact h1

theorem numL_zeros (T : Nat) : numL (List.replicate T 0) = 0 := by
  induction T with
  | zero => rfl
  | succ k ih => simp [List.replicate_succ, numL, ih]
theorem at_lt {t : List UInt8} {f r k : Nat} {y : UInt8} (hy : t[f]? = some y) (hk : k = 8 * f + r) (hN : numL t < 2 ^ k) : y.toNat < 2 ^ r := by
  have h1 := numL_at t f y hy
  have h2 : numL t / 2 ^ (8 * f) < 2 ^ r := by rw [Nat.div_lt_iff_lt_mul (Nat.two_pow_pos _), ← Nat.pow_add, Nat.add_comm, ← hk]; exact hN
  have h3 := Nat.mod_le (numL t / 2 ^ (8 * f)) 256
  omega
/-- A byte with one more bit. -/
def orB (y : UInt8) (x r : Nat) : UInt8 := UInt8.ofNat (y.toNat + x * 2 ^ r)
theorem orB_lt (y : UInt8) (x r : Nat) (hx : x < 2) (hr : r < 8) (hy : y.toNat < 2 ^ r) : y.toNat + x * 2 ^ r < 256 := by
  have h1 : 2 ^ r * 2 ≤ 256 := by
    have := Nat.pow_le_pow_right (show 0 < 2 by decide) (show r + 1 ≤ 8 by omega)
    rwa [Nat.pow_succ] at this
  have h2 : x * 2 ^ r ≤ 1 * 2 ^ r := Nat.mul_le_mul_right _ (by omega)
  omega
theorem orB_toNat (y : UInt8) (x r : Nat) (hx : x < 2) (hr : r < 8) (hy : y.toNat < 2 ^ r) : (orB y x r).toNat = y.toNat + x * 2 ^ r := by
  unfold orB
  rw [UInt8.toNat_ofNat', Nat.mod_eq_of_lt (orB_lt y x r hx hr hy)]
theorem orB_eq (y : UInt8) (x r : Nat) (hx : x < 2) (hr : r < 8) (hy : y.toNat < 2 ^ r) : bits .or .u8 (y.toNat : Int) ((x : Int) * 2 ^ r % 256) = ((orB y x r).toNat : Int) := by
  have h0 := orB_lt y x r hx hr hy
  have h1 : (x : Int) * 2 ^ r % 256 = ((x * 2 ^ r : Nat) : Int) := by
    have : (x : Int) * 2 ^ r = ((x * 2 ^ r : Nat) : Int) := by simp
    rw [this]; omega
  rw [h1, u8_or_nat _ _ y.toNat_lt (by omega), or_add _ _ _ hy, orB_toNat y x r hx hr hy]

/-- What Text's loop keeps. -/
structure TX (w : World) (b T : Nat) (out : List UInt8) (N : Nat) (wr : World) : Prop where
  own : Own wr w.heap.size (.slice (some ⟨b, 0, none⟩) T T) out
  len : out.length = T
  num : numL out = N
  below : Below w.heap.size w wr
theorem TX.set {w wr : World} {b T N : Nat} {out : List UInt8} (h : TX w b T out N wr) (f : Nat) (y y' : UInt8) (hy : out[f]? = some y) (z : Int) (hz : z = (y'.toNat : Int)) (M : Nat) (hM : M + y.toNat * 2 ^ (8 * f) = N + y'.toNat * 2 ^ (8 * f)) :
    TX w b T (out.set f y') M (wr.setCell ⟨b, f, none⟩ (.int .u8 z)) := by
  subst hz
  have hown := h.own
  unfold Own at hown
  rw [h.len] at hown
  obtain ⟨h1, h2⟩ := World.ownsRow.stored hown f (U8 y')
  refine ⟨?_, by rw [List.length_set, h.len], ?_, h.own.grown h2 h.below h.below.size⟩
  · unfold Own
    rw [List.length_set, h.len, show us (out.set f y') = (us out).set f (U8 y') by simp [us]]
    exact h1
  · have := numL_set out f y y' hy
    rw [h.num] at this
    omega
theorem TX.drew {w wr : World} {b T N : Nat} {out : List UInt8} (h : TX w b T out N wr) : TX w b T out N wr.drew := ⟨h.own.drew, h.len, h.num, h.below.drew⟩

set_option maxHeartbeats 1000000 in
theorem rtext_any (A : Option Addr) (n c : Nat) (m : List UInt8) (w : World) (hr : Rd w w.heap.size A n (us m)) (hb : Bin m) (hn : n ≤ 1000000) :
    Calls Try.prog 30 #[.slice A n c] w fun e w' => ∃ v, e = .returned v ∧ Grows w v (textB m) w' := by
  have hl : m.length = n := by have := hr.1; rwa [us_length] at this
  have HR := Lib.hid hr
  have HL := Lib.hid hl
  have HBN := Lib.hid hb
  clear hr hl hb
  obtain ⟨T, hT⟩ : ∃ T, (n + 7) / 8 = T := ⟨_, rfl⟩
  have hTi : ((n : Int) + 7) / 8 = (T : Int) := by omega
  have hTb : T ≤ 1000000 := by omega
  have HT := Lib.hid hT
  clear hT
  go_enter Try.func30, Try.ntmps30
  go_wp2_with (with_reducible refine make8f _ rfl _ _ rfl _ rfl rfl T ?_ hTb ?_)
  · first | rfl | omega | trivial
  intro w1 ho hg
  have HX := Lib.hid (show TX w w.heap.size T (List.replicate T 0) (numB (m.take 0)) w1 from ⟨ho, by simp, by rw [numL_zeros]; rfl, below_make hg⟩)
  clear ho hg
  obtain ⟨b, hbb⟩ : ∃ b, w.heap.size = b := ⟨_, rfl⟩
  have HBB := Lib.hid hbb
  rw [hbb] at HX ⊢
  clear hbb
  go_wp2_with fail
  go_loopw [4] (fun i wr => ∃ (k : Nat) (out : List UInt8), k ≤ n ∧ i = .int .i64 k ∧ TX w b T out (numB (m.take k)) wr) (fun i _ => n - (intOf i).toNat)
  case atStart => exact ⟨0, _, by omega, rfl, HX.out⟩
  case round =>
    clear HX
    obtain ⟨k, out, hk, rfl, hX⟩ := hrel
    have HX := Lib.hid hX
    clear hX
    by_cases hlt : k < n
    · have hdk : decide ((k : Int) < (n : Int)) = true := decide_eq_true (by omega)
      obtain ⟨f, hf⟩ : ∃ f, k / 8 = f := ⟨_, rfl⟩
      obtain ⟨r, hr⟩ : ∃ r, k % 8 = r := ⟨_, rfl⟩
      have hfi : (k : Int) / 8 = (f : Int) := by omega
      have hri : (k : Int) % 8 = (r : Int) := by omega
      have hr8 : r < 8 := by omega
      have hfT : f < T := by have := HT.out; omega
      obtain ⟨g, o, x, rfl, hg, hx, hc⟩ := (HR.out.below HX.out.below).at8 hlt
      have hgb : g ≠ b := by have := HBB.out; omega
      obtain ⟨y, hy⟩ : ∃ y, out[f]? = some y := ⟨_, List.getElem?_eq_getElem (by rw [HX.out.len]; exact hfT)⟩
      have hown := HX.out.own
      unfold Own at hown
      rw [HX.out.len] at hown
      have hcb := World.ownsRow.cellAt hown f (by omega)
      have hfb := World.ownsRow.frozenAt hown f
      rw [show (us out)[f]? = some (.int .u8 (y.toNat : Int)) by simp [us, hy]] at hcb
      have hbit := HBN.out.at hx
      have hylt : y.toNat < 2 ^ r := at_lt hy (show k = 8 * f + r by omega) (by
        rw [HX.out.num]
        have := numB_lt (HBN.out.take k)
        rwa [List.length_take, Nat.min_eq_left (by rw [HL.out]; omega)] at this)
      have e1 := orB_eq y x.toNat r hbit hr8 hylt
      have HS := Lib.hid ((HX.out.set f y (orB y x.toNat r) hy _ e1 (numB (m.take (k + 1))) (by
        rw [take_more hx, numB_append, List.length_take, Nat.min_eq_left (by rw [HL.out]; omega), orB_toNat y x.toNat r hbit hr8 hylt, Nat.add_mul, Nat.mul_assoc, ← Nat.pow_add, show r + 8 * f = k by omega]
        simp only [numB, Nat.mul_zero, Nat.add_zero]
        rw [Nat.mul_comm (2 ^ k)]
        omega)).drew)
      have HK := Lib.hid (And.intro hx (And.intro hy (And.intro hbit (And.intro hylt (And.intro hf hr)))))
      clear hown hx hy hbit hylt e1 hf hr
      go_wp2_with fail
      go_region
      generalize (World.setCell _ _ _).drew = w2 at HS ⊢
      clear hcb hfb hc
      go_wp2_with fail
      go_roundw
      case rel => exact ⟨k + 1, _, by omega, by go_num, HS.out⟩
      case measure => simp [intOf]; omega
    · have hkn : k = n := by omega
      subst hkn
      have hdk : decide ((k : Int) < (k : Int)) = false := decide_eq_false (by omega)
      rw [List.take_of_length_le (by rw [HL.out]; omega)] at HX
      go_wp2_with fail
      go_ret
      refine ⟨_, rfl, ?_, HX.out.below⟩
      have e := textB_eq HBN.out (t := out) (by rw [HX.out.len, HL.out]; exact HT.out.symm) HX.out.num
      rw [← e]
      exact HX.out.own

set_option maxHeartbeats 400000 in
theorem rnumber_any (A : Option Addr) (n c : Nat) (m : List UInt8) (w : World) (hr : Rd w w.heap.size A n (us m)) (hb : Bin m) (hn : n ≤ 32) :
    Calls Try.prog 33 #[.slice A n c] w fun e w' => e = .returned (.int .u32 (numB m : Int)) ∧ w' = w := by
  have hl : m.length = n := by have := hr.1; rwa [us_length] at this
  have HR := Lib.hid hr
  have HL := Lib.hid hl
  have HBN := Lib.hid hb
  clear hr hl hb
  go_enter Try.func33, Try.ntmps33
  go_wp2_with fail
  go_loopw [3, 4] (fun x i wr => ∃ k : Nat, k ≤ n ∧ x = .int .u64 (numB (m.drop k) : Int) ∧ i = .int .i64 ((k : Int) - 1) ∧ wr = w) (fun _ i _ => (intOf i + 1).toNat)
  case atStart => exact ⟨n, by omega, by rw [List.drop_of_length_le (by rw [HL.out]; omega)]; rfl, by simp, rfl⟩
  case round =>
    obtain ⟨k, hk, rfl, rfl, rfl⟩ := hrel
    have hN : ∀ q, numB (m.drop q) < 4294967296 := fun q => Nat.lt_of_lt_of_le (numB_lt (HBN.out.drop q)) (by
      have := Nat.pow_le_pow_right (show 0 < 2 by decide) (show (m.drop q).length ≤ 32 by rw [List.length_drop, HL.out]; omega)
      exact this)
    by_cases hlt : 0 < k
    · obtain ⟨q, rfl⟩ : ∃ q, k = q + 1 := ⟨k - 1, by omega⟩
      have hdk : decide (0 ≤ (((q + 1 : Nat) : Int) - 1)) = true := decide_eq_true (by omega)
      have hqi : ((q + 1 : Nat) : Int) - 1 = (q : Int) := by omega
      have hqj : (q : Int) + 1 - 1 = (q : Int) := by omega
      have hd0 : decide (0 ≤ (q : Int)) = true := decide_eq_true (by omega)
      rw [hqi]
      obtain ⟨g, o, x, rfl, hg, hx, hc⟩ := HR.out.at8 (k := q) (by omega)
      have HS := Lib.hid (numB_drop hx)
      have h1 := hN (q + 1)
      have h2 := hN q
      have hx1 := HBN.out.at hx
      generalize numB (m.drop (q + 1)) = X at h1 HS ⊢
      clear hx hdk hqi hN hg
      go_wp2_with fail
      go_roundw
      case rel =>
        exact ⟨q, by omega, by rw [HS.out]; congr 1; omega, by simp, trivial⟩
      case measure => simp [intOf]
    · have hk0 : k = 0 := by omega
      subst hk0
      have hdk : decide (0 ≤ (((0 : Nat) : Int) - 1)) = false := rfl
      have h2 := hN 0
      rw [List.drop_zero] at h2 ⊢
      clear hN
      go_wp2_with fail
      go_ret
      exact ⟨rfl, rfl⟩
end Go.Proofs.Ytafipnhpoopljaa
