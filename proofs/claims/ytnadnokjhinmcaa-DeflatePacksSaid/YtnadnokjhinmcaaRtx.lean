/- Contract of the reference's Text of bits. -/
import Derived.Test.YtnadnokjhinmcaaWmt
namespace Go.Proofs.Ytnadnokjhinmcaa
open Go.RowKit

theorem make8f {ops : Array Oper} {rest : List Oper} {o : Oper} {a : Act} {Q : Exit → Act → World → Prop} (w0 : World) (hgd : o.guard = none) (l c : Operand)
    (ho : o.op = Op.makeSlice 22 l c) (C : Int) (hl : a.eval l = .int .i64 C) (hc : a.eval c = .int .i64 C) (T : Nat) (hT : C = (T : Int)) (h1 : T ≤ 1000000)
    (h : ∀ w', Own w' w0.heap.size (.slice (some ⟨w0.heap.size, 0, none⟩) T T) (List.replicate T 0) → w0.grownBy w' none → wpList Try.prog ops Q rest (a.put o.dst (.slice (some ⟨w0.heap.size, 0, none⟩) T T)) w') :
    wpList Try.prog ops Q (o :: rest) a w0 := by
  obtain ⟨i0, hi, hz0, hz1, hz2⟩ := info_parts info5
  refine wpList_make_full w0 hgd l c 22 ho w0.heap.size 5 i0 (.int .u8 0) 1 Try.underlying22 hi hz0 hz1 .i64 .i64 C C T hl hc hT hT (by rw [hz2]; omega) (by unfold maxLen; omega) (Nat.le_refl _) (fun w' h1 h2 => h w' ?_ h2)
  unfold Own
  rw [List.length_replicate, show us (List.replicate T 0) = List.replicate T (.int .u8 0) by simp [us]]
  rw [Nat.mul_one, show (Value.int .u8 0).cells = #[.int .u8 0] from rfl, toList_madeCells_one] at h1
  exact h1
theorem numL_zeros (T : Nat) : numL (List.replicate T 0) = 0 := by
  induction T with
  | zero => rfl
  | succ k ih => simp [List.replicate_succ, numL, ih]
theorem at_lt {t : List UInt8} {f r k : Nat} {y : UInt8} (hy : t[f]? = some y) (hk : k = 8 * f + r) (hN : numL t < 2 ^ k) : y.toNat < 2 ^ r := by
  have h1 := numL_at t f y hy
  have h2 : numL t / 2 ^ (8 * f) < 2 ^ r := by rw [Nat.div_lt_iff_lt_mul (Nat.two_pow_pos _), ← Nat.pow_add, Nat.add_comm, ← hk]; exact hN
  have h3 := Nat.mod_le (numL t / 2 ^ (8 * f)) 256
  omega
/-- A byte with one more bit. -/
def orB (y : UInt8) (x r : Nat) : UInt8 := UInt8.ofNat (y.toNat + x * 2 ^ r)
theorem orB_lt (y : UInt8) (x r : Nat) (hx : x < 2) (hr : r < 8) (hy : y.toNat < 2 ^ r) : y.toNat + x * 2 ^ r < 256 := by
  have h1 : 2 ^ r * 2 ≤ 256 := by
    have := Nat.pow_le_pow_right (show 0 < 2 by decide) (show r + 1 ≤ 8 by omega)
    rwa [Nat.pow_succ] at this
  have h2 : x * 2 ^ r ≤ 1 * 2 ^ r := Nat.mul_le_mul_right _ (by omega)
  omega
theorem orB_toNat (y : UInt8) (x r : Nat) (hx : x < 2) (hr : r < 8) (hy : y.toNat < 2 ^ r) : (orB y x r).toNat = y.toNat + x * 2 ^ r := by
  unfold orB
  rw [UInt8.toNat_ofNat', Nat.mod_eq_of_lt (orB_lt y x r hx hr hy)]
theorem orB_eq (y : UInt8) (x r : Nat) (hx : x < 2) (hr : r < 8) (hy : y.toNat < 2 ^ r) : bits .or .u8 (y.toNat : Int) ((x : Int) * 2 ^ r % 256) = ((orB y x r).toNat : Int) := by
  have h0 := orB_lt y x r hx hr hy
  have h1 : (x : Int) * 2 ^ r % 256 = ((x * 2 ^ r : Nat) : Int) := by
    have : (x : Int) * 2 ^ r = ((x * 2 ^ r : Nat) : Int) := by simp
    rw [this]; omega
  rw [h1, u8_or_nat _ _ y.toNat_lt (by omega), or_add _ _ _ hy, orB_toNat y x r hx hr hy]
/-- What Text's loop keeps. -/
structure TX (w : World) (b T : Nat) (out : List UInt8) (N : Nat) (wr : World) : Prop where
  own : Own wr w.heap.size (.slice (some ⟨b, 0, none⟩) T T) out
  len : out.length = T
  num : numL out = N
  below : Below w.heap.size w wr
theorem TX.set {w wr : World} {b T N : Nat} {out : List UInt8} (h : TX w b T out N wr) (f : Nat) (y y' : UInt8) (hy : out[f]? = some y) (z : Int) (hz : z = (y'.toNat : Int)) (M : Nat) (hM : M + y.toNat * 2 ^ (8 * f) = N + y'.toNat * 2 ^ (8 * f)) :
    TX w b T (out.set f y') M (wr.setCell ⟨b, f, none⟩ (.int .u8 z)) := by
  subst hz
  have hown := h.own
  unfold Own at hown
  rw [h.len] at hown
  obtain ⟨h1, h2⟩ := World.ownsRow.stored hown f (U8 y')
  refine ⟨?_, by rw [List.length_set, h.len], ?_, h.own.grown h2 h.below h.below.size⟩
  · unfold Own
    rw [List.length_set, h.len, show us (out.set f y') = (us out).set f (U8 y') by simp [us]]
    exact h1
  · have := numL_set out f y y' hy
    rw [h.num] at this
    omega
theorem TX.drew {w wr : World} {b T N : Nat} {out : List UInt8} (h : TX w b T out N wr) : TX w b T out N wr.drew := ⟨h.own.drew, h.len, h.num, h.below.drew⟩
set_option maxHeartbeats 1000000 in
set_option maxRecDepth 10000 in
theorem rtext_any (A : Option Addr) (n c : Nat) (m : List UInt8) (w : World) (hr : Rd w w.heap.size A n (us m)) (hb : Bin m) (hn : n ≤ 1000000) :
    Calls Try.prog 38 #[.slice A n c] w fun e w' => ∃ v, e = .returned v ∧ Own w' w.heap.size v (textB m) ∧ Below w.heap.size w w' := by
  have hl : m.length = n := by have := hr.1; rwa [us_length] at this
  have HR := Lib.hid hr
  have HL := Lib.hid hl
  have HBN := Lib.hid hb
  clear hr hl hb
  obtain ⟨T, hT⟩ : ∃ T, (n + 7) / 8 = T := ⟨_, rfl⟩
  have hTi : ((n : Int) + 7) / 8 = (T : Int) := by omega
  have hTb : T ≤ 1000000 := by omega
  have HT := Lib.hid hT
  clear hT
  go_enter Try.func38, Try.ntmps38
  go_wp2_with (with_reducible refine make8f _ rfl _ _ rfl _ rfl rfl T ?_ hTb ?_)
  · first | rfl | omega | trivial
  intro w1 ho hg
  have HX := Lib.hid (show TX w w.heap.size T (List.replicate T 0) (numB (m.take 0)) w1 from ⟨ho, by simp, by rw [numL_zeros]; rfl, below_make hg⟩)
  clear ho hg
  obtain ⟨b, hbb⟩ : ∃ b, w.heap.size = b := ⟨_, rfl⟩
  have HBB := Lib.hid hbb
  rw [hbb] at HX ⊢
  clear hbb
  go_wp2_with fail
  go_loopw [4] (fun i wr => ∃ (k : Nat) (out : List UInt8), k ≤ n ∧ i = .int .i64 k ∧ TX w b T out (numB (m.take k)) wr) (fun i _ => n - (intOf i).toNat)
  case atStart => exact ⟨0, _, by omega, rfl, HX.out⟩
  case round =>
    clear HX
    obtain ⟨k, out, hk, rfl, hX⟩ := hrel
    have HX := Lib.hid hX
    clear hX
    by_cases hlt : k < n
    · have hdk : decide ((k : Int) < (n : Int)) = true := decide_eq_true (by omega)
      obtain ⟨f, hf⟩ : ∃ f, k / 8 = f := ⟨_, rfl⟩
      obtain ⟨r, hr⟩ : ∃ r, k % 8 = r := ⟨_, rfl⟩
      have hfi : (k : Int) / 8 = (f : Int) := by omega
      have hri : (k : Int) % 8 = (r : Int) := by omega
      have hr8 : r < 8 := by omega
      have hfT : f < T := by have := HT.out; omega
      obtain ⟨g, o, x, rfl, hg, hx, hc⟩ := (HR.out.below HX.out.below).at8 hlt
      have hgb : g ≠ b := by have := HBB.out; omega
      obtain ⟨y, hy⟩ : ∃ y, out[f]? = some y := ⟨_, List.getElem?_eq_getElem (by rw [HX.out.len]; exact hfT)⟩
      have hown := HX.out.own
      unfold Own at hown
      rw [HX.out.len] at hown
      have hcb := World.ownsRow.cellAt hown f (by omega)
      have hfb := World.ownsRow.frozenAt hown f
      rw [show (us out)[f]? = some (.int .u8 (y.toNat : Int)) by simp [us, hy]] at hcb
      have hbit := HBN.out.at hx
      have hylt : y.toNat < 2 ^ r := at_lt hy (show k = 8 * f + r by omega) (by
        rw [HX.out.num]
        have := numB_lt (HBN.out.take k)
        rwa [List.length_take, Nat.min_eq_left (by rw [HL.out]; omega)] at this)
      have e1 := orB_eq y x.toNat r hbit hr8 hylt
      have HS := Lib.hid ((HX.out.set f y (orB y x.toNat r) hy _ e1 (numB (m.take (k + 1))) (by
        rw [take_more hx, numB_append, List.length_take, Nat.min_eq_left (by rw [HL.out]; omega), orB_toNat y x.toNat r hbit hr8 hylt, Nat.add_mul, Nat.mul_assoc, ← Nat.pow_add, show r + 8 * f = k by omega]
        simp only [numB, Nat.mul_zero, Nat.add_zero]
        rw [Nat.mul_comm (2 ^ k)]
        omega)).drew)
      have HK := Lib.hid (And.intro hx (And.intro hy (And.intro hbit (And.intro hylt (And.intro hf hr)))))
      clear hown hx hy hbit hylt e1 hf hr
      go_wp2_with fail
      go_region
      generalize (World.setCell _ _ _).drew = w2 at HS ⊢
      clear hcb hfb hc
      go_wp2_with fail
      go_roundw
      case rel => exact ⟨k + 1, _, by omega, by go_num, HS.out⟩
      case measure => simp [intOf]; omega
    · have hkn : k = n := by omega
      subst hkn
      have hdk : decide ((k : Int) < (k : Int)) = false := decide_eq_false (by omega)
      rw [List.take_of_length_le (by rw [HL.out]; omega)] at HX
      go_wp2_with fail
      go_ret
      refine ⟨_, rfl, ?_, HX.out.below⟩
      have e := textB_eq HBN.out (t := out) (by rw [HX.out.len, HL.out]; exact HT.out.symm) HX.out.num
      rw [← e]
      exact HX.out.own
end Go.Proofs.Ytnadnokjhinmcaa
