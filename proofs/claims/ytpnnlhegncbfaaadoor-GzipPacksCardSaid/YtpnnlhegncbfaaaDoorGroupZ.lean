
/- Contract of the reference's Text of bits. -/

/- The reference's code and put: bits with a code's, or a number's, behind them. -/

/- Contract of the reference's Fixed. -/
import Derived.Test.YtpnnlhegncbfaaaDoorGroupP
import Derived.Test.YtpnnlhegncbfaaaDoorGroupY
import Derived.Test.YtpnnlhegncbfaaaDoorGroupG
namespace Go.Proofs.YtpnnlhegncbfaaaDoor
set_option maxRecDepth 20000
open Go.RowKit

theorem make8f {ops : Array Oper} {rest : List Oper} {o : Oper} {a : Act} {Q : Exit → Act → World → Prop} (w0 : World) (hgd : o.guard = none) (l c : Operand)
    (ho : o.op = Op.makeSlice 22 l c) (C : Int) (hl : a.eval l = .int .i64 C) (hc : a.eval c = .int .i64 C) (T : Nat) (hT : C = (T : Int)) (h1 : T ≤ 1000000)
    (h : ∀ w', Own w' w0.heap.size (.slice (some ⟨w0.heap.size, 0, none⟩) T T) (List.replicate T 0) → w0.grownBy w' none → wpList Tryd.prog ops Q rest (a.put o.dst (.slice (some ⟨w0.heap.size, 0, none⟩) T T)) w') :
    wpList Tryd.prog ops Q (o :: rest) a w0 := by
  obtain ⟨i0, hi, hz0, hz1, hz2⟩ := info_parts info5
  refine wpList_make_full w0 hgd l c 22 ho w0.heap.size 5 i0 (.int .u8 0) 1 Tryd.underlying22 hi hz0 hz1 .i64 .i64 C C T hl hc hT hT (by rw [hz2]; omega) (by unfold maxLen; omega) (Nat.le_refl _) (fun w' h1 h2 => h w' ?_ h2)
  unfold Own
  rw [List.length_replicate, show us (List.replicate T 0) = List.replicate T (.int .u8 0) by simp [us]]
  rw [Nat.mul_one, show (Value.int .u8 0).cells = #[.int .u8 0] from rfl, toList_madeCells_one] at h1
  exact h1
theorem numL_zeros (T : Nat) : numL (List.replicate T 0) = 0 := by
  induction T with
  | zero => rfl
  | succ k ih => simp [List.replicate_succ, numL, ih]
theorem at_lt {t : List UInt8} {f r k : Nat} {y : UInt8} (hy : t[f]? = some y) (hk : k = 8 * f + r) (hN : numL t < 2 ^ k) : y.toNat < 2 ^ r := by
  have h1 := numL_at t f y hy
  have h2 : numL t / 2 ^ (8 * f) < 2 ^ r := by rw [Nat.div_lt_iff_lt_mul (Nat.two_pow_pos _), ← Nat.pow_add, Nat.add_comm, ← hk]; exact hN
  have h3 := Nat.mod_le (numL t / 2 ^ (8 * f)) 256
  omega
/-- A byte with one more bit. -/
def orB (y : UInt8) (x r : Nat) : UInt8 := UInt8.ofNat (y.toNat + x * 2 ^ r)
theorem orB_lt (y : UInt8) (x r : Nat) (hx : x < 2) (hr : r < 8) (hy : y.toNat < 2 ^ r) : y.toNat + x * 2 ^ r < 256 := by
  have h1 : 2 ^ r * 2 ≤ 256 := by
    have := Nat.pow_le_pow_right (show 0 < 2 by decide) (show r + 1 ≤ 8 by omega)
    rwa [Nat.pow_succ] at this
  have h2 : x * 2 ^ r ≤ 1 * 2 ^ r := Nat.mul_le_mul_right _ (by omega)
  omega
theorem orB_toNat (y : UInt8) (x r : Nat) (hx : x < 2) (hr : r < 8) (hy : y.toNat < 2 ^ r) : (orB y x r).toNat = y.toNat + x * 2 ^ r := by
  unfold orB
  rw [UInt8.toNat_ofNat', Nat.mod_eq_of_lt (orB_lt y x r hx hr hy)]
theorem orB_eq (y : UInt8) (x r : Nat) (hx : x < 2) (hr : r < 8) (hy : y.toNat < 2 ^ r) : bits .or .u8 (y.toNat : Int) ((x : Int) * 2 ^ r % 256) = ((orB y x r).toNat : Int) := by
  have h0 := orB_lt y x r hx hr hy
  have h1 : (x : Int) * 2 ^ r % 256 = ((x * 2 ^ r : Nat) : Int) := by
    have : (x : Int) * 2 ^ r = ((x * 2 ^ r : Nat) : Int) := by simp
    rw [this]; omega
  rw [h1, u8_or_nat _ _ y.toNat_lt (by omega), or_add _ _ _ hy, orB_toNat y x r hx hr hy]
/-- What Text's loop keeps. -/
structure TX (w : World) (b T : Nat) (out : List UInt8) (N : Nat) (wr : World) : Prop where
  own : Own wr w.heap.size (.slice (some ⟨b, 0, none⟩) T T) out
  len : out.length = T
  num : numL out = N
  below : Below w.heap.size w wr
theorem TX.set {w wr : World} {b T N : Nat} {out : List UInt8} (h : TX w b T out N wr) (f : Nat) (y y' : UInt8) (hy : out[f]? = some y) (z : Int) (hz : z = (y'.toNat : Int)) (M : Nat) (hM : M + y.toNat * 2 ^ (8 * f) = N + y'.toNat * 2 ^ (8 * f)) :
    TX w b T (out.set f y') M (wr.setCell ⟨b, f, none⟩ (.int .u8 z)) := by
  subst hz
  have hown := h.own
  unfold Own at hown
  rw [h.len] at hown
  obtain ⟨h1, h2⟩ := World.ownsRow.stored hown f (U8 y')
  refine ⟨?_, by rw [List.length_set, h.len], ?_, h.own.grown h2 h.below h.below.size⟩
  · unfold Own
    rw [List.length_set, h.len, show us (out.set f y') = (us out).set f (U8 y') by simp [us]]
    exact h1
  · have := numL_set out f y y' hy
    rw [h.num] at this
    omega
theorem TX.drew {w wr : World} {b T N : Nat} {out : List UInt8} (h : TX w b T out N wr) : TX w b T out N wr.drew := ⟨h.own.drew, h.len, h.num, h.below.drew⟩
set_option maxHeartbeats 1000000 in
set_option maxRecDepth 10000 in
theorem rtext_any (A : Option Addr) (n c : Nat) (m : List UInt8) (w : World) (hr : Rd w w.heap.size A n (us m)) (hb : Bin m) (hn : n ≤ 1000000) :
    Calls Tryd.prog 69 #[.slice A n c] w fun e w' => ∃ v, e = .returned v ∧ Own w' w.heap.size v (textB m) ∧ Below w.heap.size w w' := by
  have hl : m.length = n := by have := hr.1; rwa [us_length] at this
  have HR := Lib.hid hr
  have HL := Lib.hid hl
  have HBN := Lib.hid hb
  clear hr hl hb
  obtain ⟨T, hT⟩ : ∃ T, (n + 7) / 8 = T := ⟨_, rfl⟩
  have hTi : ((n : Int) + 7) / 8 = (T : Int) := by omega
  have hTb : T ≤ 1000000 := by omega
  have HT := Lib.hid hT
  clear hT
  go_enter Tryd.func69, Tryd.ntmps69
  go_wp2_with (with_reducible refine make8f _ rfl _ _ rfl _ rfl rfl T ?_ hTb ?_)
  · first | rfl | omega | trivial
  intro w1 ho hg
  have HX := Lib.hid (show TX w w.heap.size T (List.replicate T 0) (numB (m.take 0)) w1 from ⟨ho, by simp, by rw [numL_zeros]; rfl, below_make hg⟩)
  clear ho hg
  obtain ⟨b, hbb⟩ : ∃ b, w.heap.size = b := ⟨_, rfl⟩
  have HBB := Lib.hid hbb
  rw [hbb] at HX ⊢
  clear hbb
  go_wp2_with fail
  go_loopw [4] (fun i wr => ∃ (k : Nat) (out : List UInt8), k ≤ n ∧ i = .int .i64 k ∧ TX w b T out (numB (m.take k)) wr) (fun i _ => n - (intOf i).toNat)
  case atStart => exact ⟨0, _, by omega, rfl, HX.out⟩
  case round =>
    clear HX
    obtain ⟨k, out, hk, rfl, hX⟩ := hrel
    have HX := Lib.hid hX
    clear hX
    by_cases hlt : k < n
    · have hdk : decide ((k : Int) < (n : Int)) = true := decide_eq_true (by omega)
      obtain ⟨f, hf⟩ : ∃ f, k / 8 = f := ⟨_, rfl⟩
      obtain ⟨r, hr⟩ : ∃ r, k % 8 = r := ⟨_, rfl⟩
      have hfi : (k : Int) / 8 = (f : Int) := by omega
      have hri : (k : Int) % 8 = (r : Int) := by omega
      have hr8 : r < 8 := by omega
      have hfT : f < T := by have := HT.out; omega
      obtain ⟨g, o, x, rfl, hg, hx, hc⟩ := (HR.out.below HX.out.below).at8 hlt
      have hgb : g ≠ b := by have := HBB.out; omega
      obtain ⟨y, hy⟩ : ∃ y, out[f]? = some y := ⟨_, List.getElem?_eq_getElem (by rw [HX.out.len]; exact hfT)⟩
      have hown := HX.out.own
      unfold Own at hown
      rw [HX.out.len] at hown
      have hcb := World.ownsRow.cellAt hown f (by omega)
      have hfb := World.ownsRow.frozenAt hown f
      rw [show (us out)[f]? = some (.int .u8 (y.toNat : Int)) by simp [us, hy]] at hcb
      have hbit := HBN.out.at hx
      have hylt : y.toNat < 2 ^ r := at_lt hy (show k = 8 * f + r by omega) (by
        rw [HX.out.num]
        have := numB_lt (HBN.out.take k)
        rwa [List.length_take, Nat.min_eq_left (by rw [HL.out]; omega)] at this)
      have e1 := orB_eq y x.toNat r hbit hr8 hylt
      have HS := Lib.hid ((HX.out.set f y (orB y x.toNat r) hy _ e1 (numB (m.take (k + 1))) (by
        rw [take_more hx, numB_append, List.length_take, Nat.min_eq_left (by rw [HL.out]; omega), orB_toNat y x.toNat r hbit hr8 hylt, Nat.add_mul, Nat.mul_assoc, ← Nat.pow_add, show r + 8 * f = k by omega]
        simp only [numB, Nat.mul_zero, Nat.add_zero]
        rw [Nat.mul_comm (2 ^ k)]
        omega)).drew)
      have HK := Lib.hid (And.intro hx (And.intro hy (And.intro hbit (And.intro hylt (And.intro hf hr)))))
      clear hown hx hy hbit hylt e1 hf hr
      go_wp2_with fail
      go_region
      generalize (World.setCell _ _ _).drew = w2 at HS ⊢
      clear hcb hfb hc
      go_wp2_with fail
      go_roundw
      case rel => exact ⟨k + 1, _, by omega, by go_num, HS.out⟩
      case measure => simp [intOf]; omega
    · have hkn : k = n := by omega
      subst hkn
      have hdk : decide ((k : Int) < (k : Int)) = false := decide_eq_false (by omega)
      rw [List.take_of_length_le (by rw [HL.out]; omega)] at HX
      go_wp2_with fail
      go_ret
      refine ⟨_, rfl, ?_, HX.out.below⟩
      have e := textB_eq HBN.out (t := out) (by rw [HX.out.len, HL.out]; exact HT.out.symm) HX.out.num
      rw [← e]
      exact HX.out.own
end Go.Proofs.YtpnnlhegncbfaaaDoor
namespace Go.Proofs.YtpnnlhegncbfaaaDoor
set_option maxRecDepth 20000
open Go.RowKit

/-- What an append of bytes leaves. -/
structure AP (w w' : World) (B : Nat) (v v' : Value) (m : List UInt8) : Prop where
  own : Own w' B v' m
  gr : w.grownBy w' v.ownBlock
  fr : Fresh w v v'
theorem AP.refl {w : World} {B : Nat} {v : Value} {m : List UInt8} (h : Own w B v m) : AP w w B v v m := ⟨h, ⟨rfl, rfl, rfl, Nat.le_refl _, fun _ _ _ => rfl⟩, Fresh.same _ _⟩
theorem AP.step {w wr w' : World} {B : Nat} {v u u' : Value} {m m' : List UInt8} (h : AP w wr B v u m) (ho : Own w' B u' m') (hg : wr.grownBy w' u.ownBlock) (hf : Fresh wr u u') : AP w w' B v u' m' :=
  ⟨ho, ⟨hg.os.trans h.gr.os, hg.tape.trans h.gr.tape, hg.output.trans h.gr.output, Nat.le_trans h.gr.size hg.size, fun k hk hne =>
    (hg.block k (Nat.lt_of_lt_of_le hk h.gr.size) (Ne.symm (h.fr.not hk (Ne.symm hne)))).trans (h.gr.block k hk hne)⟩, h.fr.trans hf h.gr.size⟩
theorem AP.trans {w w1 w2 : World} {B : Nat} {v v1 v2 : Value} {m1 m2 : List UInt8} (h : AP w w1 B v v1 m1) (h2 : AP w1 w2 B v1 v2 m2) : AP w w2 B v v2 m2 := h.step h2.own h2.gr h2.fr
def strB (b : List UInt8) : ByteArray := ⟨(b.map (· + 48)).toArray⟩
theorem strB_size (b : List UInt8) : (strB b).size = b.length := by show (b.map (· + 48)).toArray.size = _; simp
theorem strB_at {b : List UInt8} {k : Nat} {x : UInt8} (h : b[k]? = some x) (hk : k < (strB b).size) : (strB b)[k] = x + 48 := by
  have h1 : (b.map (· + 48))[k]? = some (x + 48) := by rw [List.getElem?_map, h]; rfl
  have h2 := (List.getElem?_eq_some_iff.1 h1).2
  rw [ByteArray.getElem_eq_getElem_data]
  simpa [strB] using h2
theorem strAt_B (ls : List Nat) (s : Nat) : strAt ls s = strB (bitsO ls (s : Int)) := by
  unfold strAt rowS strB bitsO figL
  rw [List.take_of_length_le (by rw [List.length_reverse, lowB_length]; exact Nat.le_refl _), codeI_nat, lenI_nat]

set_option maxHeartbeats 4000000 in
set_option maxRecDepth 10000 in
theorem rcode_any (B : Nat) (v : Value) (m b : List UInt8) (w : World) (ho : Own w B v m) (hB : B ≤ w.heap.size) (hb : Bin b) (hL : m.length + b.length ≤ 1000000) :
    Calls Tryd.prog 65 #[v, .string (strB b)] w fun e w' => ∃ v', e = .returned v' ∧ AP w w' B v v' (m ++ b) := by
  obtain ⟨X, HX⟩ : ∃ X, RowKit.Hid (m ++ b = X) := ⟨_, Lib.hid rfl⟩
  rw [HX.out]
  have hsz := strB_size b
  have HAT : RowKit.Hid (∀ k x, b[k]? = some x → ∀ hk : k < (strB b).size, (strB b)[k] = x + 48) := Lib.hid (fun k x h hk => strB_at h hk)
  have HO := Lib.hid ho
  have HBB := Lib.hid hB
  have HBin := Lib.hid hb
  have HLL := Lib.hid hL
  generalize strB b = str at hsz HAT ⊢
  generalize hbl : b.length = n at hsz HLL
  have HN := Lib.hid hbl
  have hn : n ≤ 1000000 := by omega
  obtain ⟨A0, c0, hv0⟩ := ho.slice
  clear ho hB hb hL hbl
  go_enter Tryd.func65, Tryd.ntmps65
  go_wp2_with fail
  go_loopw [0, 5] (fun u i wr => ∃ k : Nat, k ≤ n ∧ i = .int .i64 (k : Int) ∧ AP w wr B v u (m ++ b.take k)) (fun _ i _ => n - (intOf i).toNat)
  case atStart => exact ⟨0, Nat.zero_le _, rfl, by simpa using AP.refl HO.out⟩
  case round =>
    obtain ⟨k, hk, rfl, hI⟩ := hrel
    by_cases hlt : k < n
    · have d1 : decide ((k : Int) < (str.size : Int)) = true := decide_eq_true (by omega)
      have hks : k < str.size := by omega
      obtain ⟨x, hx⟩ : ∃ x, b[k]? = some x := ⟨_, List.getElem?_eq_getElem (by rw [HN.out]; exact hlt)⟩
      have hch := HAT.out k x hx hks
      have hxb := HBin.out.at hx
      have hct : (x + 48).toNat = x.toNat + 48 := by
        rw [UInt8.toNat_add]
        show (x.toNat + 48) % 256 = _
        omega
      obtain ⟨ch, hchv⟩ : ∃ ch, x + 48 = ch := ⟨_, rfl⟩
      rw [hchv] at hch hct
      have hcs : ((ch.toNat : Int) - 48) % 256 = (x.toNat : Int) := by rw [hct]; omega
      have HT : RowKit.Hid (m ++ b.take k ++ [x] = m ++ b.take (k + 1)) := Lib.hid (by rw [List.take_add_one, hx]; simp)
      have HM : RowKit.Hid ((m ++ b.take k).length + 1 ≤ 1000000) := Lib.hid (by have := HLL.out; simp; omega)
      have HI := Lib.hid hI
      have HBW : RowKit.Hid (B ≤ wr.heap.size) := Lib.hid (Nat.le_trans HBB.out hI.gr.size)
      obtain ⟨Au, cu, rfl⟩ := hI.own.slice
      generalize m ++ b.take k = q at HI HT HM ⊢
      clear hx hchv hI
      go_wp2_with (at_builtin; refine push8 wr rfl _ _ rfl B (.slice Au q.length cu) q [x] _ 1 rfl rfl HI.out.own rfl rfl HBW.out HM.out ?_)
      intro v1 w1 ho1 hg1 hf1
      rw [HT.out] at ho1
      have HI1 := Lib.hid (HI.out.step ho1 hg1 hf1)
      clear ho1 hg1 hf1 hch
      go_wp2_with fail
      go_roundw
      case rel => exact ⟨k + 1, by omega, by simp, HI1.out⟩
      case measure => simp [intOf]; omega
    · obtain rfl : k = n := by omega
      have d1 : decide ((k : Int) < (str.size : Int)) = false := decide_eq_false (by omega)
      rw [List.take_of_length_le (by rw [HN.out]; exact Nat.le_refl _), HX.out] at hI
      have HF := Lib.hid hI
      obtain ⟨Au, cu, rfl⟩ := hI.own.slice
      generalize X.length = xl at HF ⊢
      clear hI
      go_wp2_with fail
      go_ret
      exact ⟨_, rfl, HF.out⟩

set_option maxHeartbeats 4000000 in
set_option maxRecDepth 10000 in
theorem rput_any (B : Nat) (v : Value) (m : List UInt8) (x n : Nat) (w : World) (ho : Own w B v m) (hB : B ≤ w.heap.size) (hx : x < 1000000) (hn : n ≤ 20) (hL : m.length ≤ 900000) :
    Calls Tryd.prog 67 #[v, .int .i64 (x : Int), .int .i64 (n : Int)] w fun e w' => ∃ v', e = .returned v' ∧ AP w w' B v v' (m ++ lowB x n) := by
  obtain ⟨X, HX⟩ : ∃ X, RowKit.Hid (m ++ lowB x n = X) := ⟨_, Lib.hid rfl⟩
  rw [HX.out]
  have HO := Lib.hid ho
  have HBB := Lib.hid hB
  have HLL := Lib.hid hL
  obtain ⟨A0, c0, hv0⟩ := ho.slice
  clear ho hB hL
  go_enter Tryd.func67, Tryd.ntmps67
  go_wp2_with fail
  go_loopw [0, 7] (fun u i wr => ∃ k : Nat, k ≤ n ∧ i = .int .i64 (k : Int) ∧ AP w wr B v u (m ++ lowB x k)) (fun _ i _ => n - (intOf i).toNat)
  case atStart => exact ⟨0, Nat.zero_le _, rfl, by simpa [lowB] using AP.refl HO.out⟩
  case round =>
    obtain ⟨k, hk, rfl, hI⟩ := hrel
    by_cases hlt : k < n
    · have d1 : decide ((k : Int) < (n : Int)) = true := decide_eq_true (by omega)
      have HT : RowKit.Hid (m ++ lowB x k ++ [bitN x k] = m ++ lowB x (k + 1)) := Lib.hid (by rw [lowB_succ]; simp)
      have HM : RowKit.Hid ((m ++ lowB x k).length + 1 ≤ 1000000) := Lib.hid (by have := HLL.out; simp [lowB_length]; omega)
      have HI := Lib.hid hI
      have HBW : RowKit.Hid (B ≤ wr.heap.size) := Lib.hid (Nat.le_trans HBB.out hI.gr.size)
      obtain ⟨Au, cu, rfl⟩ := hI.own.slice
      generalize m ++ lowB x k = q at HI HT HM ⊢
      have hk20 : k < 20 := by omega
      obtain ⟨y, hy⟩ : ∃ y, x / 2 ^ k = y := ⟨_, rfl⟩
      have hyx : y < 1000000 := by rw [← hy]; exact Nat.lt_of_le_of_lt (Nat.div_le_self _ _) hx
      have hyi : (x : Int) / 2 ^ k = (y : Int) := by rw [← hy]; simp
      have hod := oddI y hyx
      have hbt : (bitN x k).toNat = y % 2 := by rw [bitN_toNat, hy]
      have hbz : ((y % 2 : Nat) : Int) % 256 = ((bitN x k).toNat : Int) := by rw [hbt]; omega
      have hbt2 : ((y % 2 : Nat) : Int) = ((bitN x k).toNat : Int) := by rw [hbt]
      clear hI hy hbt
      go_wp2_with (at_builtin; refine push8 wr rfl _ _ rfl B (.slice Au q.length cu) q [bitN x k] _ 1 rfl rfl HI.out.own rfl rfl HBW.out HM.out ?_)
      intro v1 w1 ho1 hg1 hf1
      rw [HT.out] at ho1
      have HI1 := Lib.hid (HI.out.step ho1 hg1 hf1)
      clear ho1 hg1 hf1
      go_wp2_with fail
      go_roundw
      case rel => exact ⟨k + 1, by omega, by simp, HI1.out⟩
      case measure => simp [intOf]; omega
    · obtain rfl : k = n := by omega
      have d1 : decide ((k : Int) < (k : Int)) = false := decide_eq_false (by omega)
      rw [HX.out] at hI
      have HF := Lib.hid hI
      obtain ⟨Au, cu, rfl⟩ := hI.own.slice
      generalize X.length = xl at HF ⊢
      clear hI
      go_wp2_with fail
      go_ret
      exact ⟨_, rfl, HF.out⟩
end Go.Proofs.YtpnnlhegncbfaaaDoor
namespace Go.Proofs.YtpnnlhegncbfaaaDoor
set_option maxRecDepth 20000
open Go.RowKit

/-- Within the reference's fixed lengths. -/
structure RFI (w wr : World) (p q k : Nat) : Prop where
  rp : Row wr p (ia (upTo fixL k) 288) 3
  rq : Row wr q (ia (upTo (fun _ => 5) (min k 30)) 30) 3
  below : Below w.heap.size w wr
  ne : p ≠ q
  lp : w.heap.size ≤ p
  lq : w.heap.size ≤ q
/-- The same with the letter's length laid, and the distance's not yet. -/
structure RFH (w wr : World) (p q k : Nat) : Prop where
  rp : Row wr p (ia (upTo fixL (k + 1)) 288) 3
  rq : Row wr q (ia (upTo (fun _ => 5) (min k 30)) 30) 3
  below : Below w.heap.size w wr
  ne : p ≠ q
  lp : w.heap.size ≤ p
  lq : w.heap.size ≤ q
theorem RFI.setP {w wr : World} {p q k : Nat} (h : RFI w wr p q k) (v : Nat) (hv : fixL k = v) : RFH w (wr.setCell ⟨p, k, none⟩ (.int .i64 (v : Int))) p q k :=
  ⟨by rw [upTo_more, hv]; exact h.rp.iaSet k v _ rfl, h.rq.other h.ne.symm _ _, h.below.grown (grown_setCell _ _ _ _) h.below.size (fun j e => by injection e with e; have := h.lp; omega), h.ne, h.lp, h.lq⟩
theorem upd_twice (f : Nat → Nat) (k u v : Nat) : upd (upd f k u) k v = upd f k v := by
  funext j
  by_cases hj : j = k
  · subst hj; rw [upd_same, upd_same]
  · rw [upd_ne _ _ hj, upd_ne _ _ hj, upd_ne _ _ hj]
theorem RFI.setP2 {w wr : World} {p q k : Nat} (h : RFI w wr p q k) (u v : Nat) (hv : fixL k = v) : RFH w ((wr.setCell ⟨p, k, none⟩ (.int .i64 (u : Int))).setCell ⟨p, k, none⟩ (.int .i64 (v : Int))) p q k :=
  ⟨by rw [upTo_more, hv, ← upd_twice _ k u v]; exact (h.rp.iaSet k u _ rfl).iaSet k v _ rfl, (h.rq.other h.ne.symm _ _).other h.ne.symm _ _,
    (h.below.grown (grown_setCell _ _ _ _) h.below.size (fun j e => by injection e with e; have := h.lp; omega)).grown (grown_setCell _ _ _ _) (by have := h.below.size; simpa [World.setCell] using this) (fun j e => by injection e with e; have := h.lp; omega), h.ne, h.lp, h.lq⟩
theorem RFH.setQ {w wr : World} {p q k : Nat} (h : RFH w wr p q k) (hk : k < 30) : RFI w (wr.setCell ⟨q, k, none⟩ (.int .i64 5)) p q (k + 1) :=
  ⟨h.rp.other h.ne _ _, by
    have := h.rq.iaSet k 5 5 rfl
    rw [Nat.min_eq_left (by omega)] at this
    rw [Nat.min_eq_left (by omega), upTo_more]; exact this, h.below.grown (grown_setCell _ _ _ _) h.below.size (fun j e => by injection e with e; have := h.lq; omega), h.ne, h.lp, h.lq⟩
theorem RFH.noQ {w wr : World} {p q k : Nat} (h : RFH w wr p q k) (hk : ¬ k < 30) : RFI w wr p q (k + 1) :=
  ⟨h.rp, by have := h.rq; rw [Nat.min_eq_right (by omega)] at this; rw [Nat.min_eq_right (by omega)]; exact this, h.below, h.ne, h.lp, h.lq⟩
theorem RFI.done {w wr : World} {p q : Nat} (h : RFI w wr p q 288) : FixM w (.returned (.tuple #[.slice (some ⟨p, 0, none⟩) 288 288, .slice (some ⟨q, 0, none⟩) 30 30])) wr :=
  ⟨p, q, rfl, by have := h.rp; rwa [upTo_all] at this, by have := h.rq; rw [Nat.min_eq_right (by omega), upTo_all] at this; exact this, h.below, h.lp, h.lq, h.ne⟩
theorem two_rows (w : World) (cs cs' : Array Value) (t t' : TypeId) : Row (((w.alloc (.cells cs t)).alloc (.cells cs' t')).drew) w.heap.size cs t ∧ Row (((w.alloc (.cells cs t)).alloc (.cells cs' t')).drew) (w.heap.size + 1) cs' t' ∧ Below w.heap.size w (((w.alloc (.cells cs t)).alloc (.cells cs' t')).drew) := by
  have h1 := (Row.new w cs t).grown (World.grownBy_alloc _ (.cells cs' t') none) (by simp)
  have h2 := Row.new (w.alloc (.cells cs t)) cs' t'
  rw [show (w.alloc (.cells cs t)).heap.size = w.heap.size + 1 by simp] at h2
  have h3 : Below w.heap.size w ((w.alloc (.cells cs t)).alloc (.cells cs' t')) := ((Below.refl _ w).alloc (Nat.le_refl _) _).alloc (by simp) _
  exact ⟨h1, h2, below_drew h3⟩
theorem rfi_start0 (w : World) : RFI w (((w.alloc (.cells (ia (fun _ => 0) 288) 3)).alloc (.cells (ia (fun _ => 0) 30) 3)).drew) w.heap.size (w.heap.size + 1) 0 := by
  obtain ⟨h1, h2, h3⟩ := two_rows w (ia (fun _ => 0) 288) (ia (fun _ => 0) 30) 3 3
  exact ⟨by rw [upTo_zero]; exact h1, by rw [Nat.min_eq_left (by omega), upTo_zero]; exact h2, h3, by omega, by omega, by omega⟩
theorem rfi_start1 (w : World) : RFI w (((w.alloc (.cells (ia (fun _ => 0) 30) 3)).alloc (.cells (ia (fun _ => 0) 288) 3)).drew) (w.heap.size + 1) w.heap.size 0 := by
  obtain ⟨h1, h2, h3⟩ := two_rows w (ia (fun _ => 0) 30) (ia (fun _ => 0) 288) 3 3
  exact ⟨by rw [upTo_zero]; exact h2, by rw [Nat.min_eq_left (by omega), upTo_zero]; exact h1, h3, by omega, by omega, by omega⟩

set_option maxHeartbeats 2000000 in
theorem rfixed_any (w : World) : Calls Tryd.prog 62 #[] w (FixM w) := by
  have hm1 : ∀ w, (Instr.makeSlice 46 (.int .i64 288) (.int .i64 288)).run Tryd.prog w = .ok (.slice (some ⟨w.heap.size, 0, none⟩) 288 288) (w.alloc (.cells (ia (fun _ => 0) 288) 3)) := makeI_run 288 (by decide)
  have hm2 : ∀ w, (Instr.makeSlice 46 (.int .i64 30) (.int .i64 30)).run Tryd.prog w = .ok (.slice (some ⟨w.heap.size, 0, none⟩) 30 30) (w.alloc (.cells (ia (fun _ => 0) 30) 3)) := makeI_run 30 (by decide)
  have HS0 := Lib.hid (rfi_start0 w)
  have HS1 := Lib.hid (rfi_start1 w)
  go_enter Tryd.func62, Tryd.ntmps62
  go_wp2_with fail
  go_region
  · generalize ((w.alloc (.cells (ia (fun _ => 0) 288) 3)).alloc (.cells (ia (fun _ => 0) 30) 3)).drew = w2 at HS0 ⊢
    generalize hH : w.heap.size + 1 = H at HS0 ⊢
    generalize hG : w.heap.size = G at HS0 ⊢
    have HN := Lib.hid HS0.out.ne
    have HI := HS0
    clear hm1 hm2 HS0 HS1 hH hG
    go_wp2_with fail
    go_loopw [4] (fun i wr => ∃ k : Nat, k ≤ 288 ∧ i = .int .i64 (k : Int) ∧ RFI w wr G H k) (fun i _ => 288 - (intOf i).toNat)
    case atStart => exact ⟨0, by omega, rfl, HI.out⟩
    case round =>
      clear HI
      obtain ⟨k, hk, rfl, hI⟩ := hrel
      have HI := Lib.hid hI
      clear hI
      by_cases hk2 : k < 288
      · have hd : decide ((k : Int) < 288) = true := decide_eq_true (by omega)
        have c1 := HI.out.rp.ia hk2
        have c2 := HI.out.rp.thawed k
        generalize upTo fixL k k = y at c1
        by_cases h30 : k < 30
        · have c3 := HI.out.rq.ia h30
          have c4 := HI.out.rq.thawed k
          generalize upTo (fun _ => 5) (min k 30) k = y2 at c3
          have d1 : decide ((144 : Int) ≤ (k : Int)) = false := decide_eq_false (by omega)
          have d2 : decide ((256 : Int) ≤ (k : Int)) = false := decide_eq_false (by omega)
          have d3 : decide ((k : Int) < 30) = true := decide_eq_true (by omega)
          have hne1 : G ≠ H := HN.out
          have hne2 : H ≠ G := HN.out.symm
          have n1 : ¬ 144 ≤ k := by omega
          have n2 : ¬ 256 ≤ k := by omega
          have HX := Lib.hid ((HI.out.setP 8 (by unfold fixL; rw [if_pos (by omega)])).setQ h30)
          go_wp2_with fail
          go_roundw
          case rel => exact ⟨k + 1, by omega, by simp, HX.out⟩
          case measure => simp [intOf]; omega
        · have d3 : decide ((k : Int) < 30) = false := decide_eq_false (by omega)
          by_cases h144 : k < 144
          · have d1 : decide ((144 : Int) ≤ (k : Int)) = false := decide_eq_false (by omega)
            have d2 : decide ((256 : Int) ≤ (k : Int)) = false := decide_eq_false (by omega)
            have n1 : ¬ 144 ≤ k := by omega
            have n2 : ¬ 256 ≤ k := by omega
            have HX := Lib.hid ((HI.out.setP 8 (by unfold fixL; rw [if_pos (by omega)])).noQ h30)
            go_wp2_with fail
            go_roundw
            case rel => exact ⟨k + 1, by omega, by simp, HX.out⟩
            case measure => simp [intOf]; omega
          · have d1 : decide ((144 : Int) ≤ (k : Int)) = true := decide_eq_true (by omega)
            have n1 : 144 ≤ k := by omega
            by_cases h256 : k < 256
            · have d2 : decide ((k : Int) < 256) = true := decide_eq_true (by omega)
              have d4 : decide ((256 : Int) ≤ (k : Int)) = false := decide_eq_false (by omega)
              have n2 : ¬ 256 ≤ k := by omega
              have HX := Lib.hid ((HI.out.setP2 8 9 (by unfold fixL; rw [if_neg (by omega), if_pos (by omega)])).noQ h30)
              have HX2 := Lib.hid ((HI.out.setP 9 (by unfold fixL; rw [if_neg (by omega), if_pos (by omega)])).noQ h30)
              go_wp2_with fail
              go_roundw
              case rel => exact ⟨k + 1, by omega, by simp, by first | exact HX.out | exact HX2.out⟩
              case measure => simp [intOf]; omega
            · have d2 : decide ((k : Int) < 256) = false := decide_eq_false (by omega)
              have d4 : decide ((256 : Int) ≤ (k : Int)) = true := decide_eq_true (by omega)
              have n2 : 256 ≤ k := by omega
              by_cases h280 : k < 280
              · have d5 : decide ((k : Int) < 280) = true := decide_eq_true (by omega)
                have HX := Lib.hid ((HI.out.setP2 8 7 (by unfold fixL; rw [if_neg (by omega), if_neg (by omega), if_pos (by omega)])).noQ h30)
                have HX2 := Lib.hid ((HI.out.setP 7 (by unfold fixL; rw [if_neg (by omega), if_neg (by omega), if_pos (by omega)])).noQ h30)
                go_wp2_with fail
                go_roundw
                case rel => exact ⟨k + 1, by omega, by simp, by first | exact HX.out | exact HX2.out⟩
                case measure => simp [intOf]; omega
              · have d5 : decide ((k : Int) < 280) = false := decide_eq_false (by omega)
                have HX := Lib.hid ((HI.out.setP 8 (by unfold fixL; rw [if_neg (by omega), if_neg (by omega), if_neg (by omega)])).noQ h30)
                go_wp2_with fail
                go_roundw
                case rel => exact ⟨k + 1, by omega, by simp, HX.out⟩
                case measure => simp [intOf]; omega
      · obtain rfl : k = 288 := by omega
        have hd : decide (((288 : Nat) : Int) < 288) = false := rfl
        have HX := Lib.hid HI.out.done
        go_wp2_with fail
        go_ret2
        exact HX.out
  · generalize ((w.alloc (.cells (ia (fun _ => 0) 30) 3)).alloc (.cells (ia (fun _ => 0) 288) 3)).drew = w2 at HS1 ⊢
    generalize hH : w.heap.size + 1 = H at HS1 ⊢
    generalize hG : w.heap.size = G at HS1 ⊢
    have HN := Lib.hid HS1.out.ne
    have HI := HS1
    clear hm1 hm2 HS0 HS1 hH hG
    go_wp2_with fail
    go_loopw [4] (fun i wr => ∃ k : Nat, k ≤ 288 ∧ i = .int .i64 (k : Int) ∧ RFI w wr H G k) (fun i _ => 288 - (intOf i).toNat)
    case atStart => exact ⟨0, by omega, rfl, HI.out⟩
    case round =>
      clear HI
      obtain ⟨k, hk, rfl, hI⟩ := hrel
      have HI := Lib.hid hI
      clear hI
      by_cases hk2 : k < 288
      · have hd : decide ((k : Int) < 288) = true := decide_eq_true (by omega)
        have c1 := HI.out.rp.ia hk2
        have c2 := HI.out.rp.thawed k
        generalize upTo fixL k k = y at c1
        by_cases h30 : k < 30
        · have c3 := HI.out.rq.ia h30
          have c4 := HI.out.rq.thawed k
          generalize upTo (fun _ => 5) (min k 30) k = y2 at c3
          have d1 : decide ((144 : Int) ≤ (k : Int)) = false := decide_eq_false (by omega)
          have d2 : decide ((256 : Int) ≤ (k : Int)) = false := decide_eq_false (by omega)
          have d3 : decide ((k : Int) < 30) = true := decide_eq_true (by omega)
          have hne1 : H ≠ G := HN.out
          have hne2 : G ≠ H := HN.out.symm
          have n1 : ¬ 144 ≤ k := by omega
          have n2 : ¬ 256 ≤ k := by omega
          have HX := Lib.hid ((HI.out.setP 8 (by unfold fixL; rw [if_pos (by omega)])).setQ h30)
          go_wp2_with fail
          go_roundw
          case rel => exact ⟨k + 1, by omega, by simp, HX.out⟩
          case measure => simp [intOf]; omega
        · have d3 : decide ((k : Int) < 30) = false := decide_eq_false (by omega)
          by_cases h144 : k < 144
          · have d1 : decide ((144 : Int) ≤ (k : Int)) = false := decide_eq_false (by omega)
            have d2 : decide ((256 : Int) ≤ (k : Int)) = false := decide_eq_false (by omega)
            have n1 : ¬ 144 ≤ k := by omega
            have n2 : ¬ 256 ≤ k := by omega
            have HX := Lib.hid ((HI.out.setP 8 (by unfold fixL; rw [if_pos (by omega)])).noQ h30)
            go_wp2_with fail
            go_roundw
            case rel => exact ⟨k + 1, by omega, by simp, HX.out⟩
            case measure => simp [intOf]; omega
          · have d1 : decide ((144 : Int) ≤ (k : Int)) = true := decide_eq_true (by omega)
            have n1 : 144 ≤ k := by omega
            by_cases h256 : k < 256
            · have d2 : decide ((k : Int) < 256) = true := decide_eq_true (by omega)
              have d4 : decide ((256 : Int) ≤ (k : Int)) = false := decide_eq_false (by omega)
              have n2 : ¬ 256 ≤ k := by omega
              have HX := Lib.hid ((HI.out.setP2 8 9 (by unfold fixL; rw [if_neg (by omega), if_pos (by omega)])).noQ h30)
              have HX2 := Lib.hid ((HI.out.setP 9 (by unfold fixL; rw [if_neg (by omega), if_pos (by omega)])).noQ h30)
              go_wp2_with fail
              go_roundw
              case rel => exact ⟨k + 1, by omega, by simp, by first | exact HX.out | exact HX2.out⟩
              case measure => simp [intOf]; omega
            · have d2 : decide ((k : Int) < 256) = false := decide_eq_false (by omega)
              have d4 : decide ((256 : Int) ≤ (k : Int)) = true := decide_eq_true (by omega)
              have n2 : 256 ≤ k := by omega
              by_cases h280 : k < 280
              · have d5 : decide ((k : Int) < 280) = true := decide_eq_true (by omega)
                have HX := Lib.hid ((HI.out.setP2 8 7 (by unfold fixL; rw [if_neg (by omega), if_neg (by omega), if_pos (by omega)])).noQ h30)
                have HX2 := Lib.hid ((HI.out.setP 7 (by unfold fixL; rw [if_neg (by omega), if_neg (by omega), if_pos (by omega)])).noQ h30)
                go_wp2_with fail
                go_roundw
                case rel => exact ⟨k + 1, by omega, by simp, by first | exact HX.out | exact HX2.out⟩
                case measure => simp [intOf]; omega
              · have d5 : decide ((k : Int) < 280) = false := decide_eq_false (by omega)
                have HX := Lib.hid ((HI.out.setP 8 (by unfold fixL; rw [if_neg (by omega), if_neg (by omega), if_neg (by omega)])).noQ h30)
                go_wp2_with fail
                go_roundw
                case rel => exact ⟨k + 1, by omega, by simp, HX.out⟩
                case measure => simp [intOf]; omega
      · obtain rfl : k = 288 := by omega
        have hd : decide (((288 : Nat) : Int) < 288) = false := rfl
        have HX := Lib.hid HI.out.done
        go_wp2_with fail
        go_ret2
        exact HX.out
end Go.Proofs.YtpnnlhegncbfaaaDoor
