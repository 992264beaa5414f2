/- The reference's code and put: bits with a code's, or a number's, behind them. -/
import Derived.Test.YtnadnokjhinmcaaRcd
import Derived.Test.YtnadnokjhinmcaaRtx
namespace Go.Proofs.Ytnadnokjhinmcaa
open Go.RowKit

/-- What an append of bytes leaves. -/
structure AP (w w' : World) (B : Nat) (v v' : Value) (m : List UInt8) : Prop where
  own : Own w' B v' m
  gr : w.grownBy w' v.ownBlock
  fr : Fresh w v v'
theorem AP.refl {w : World} {B : Nat} {v : Value} {m : List UInt8} (h : Own w B v m) : AP w w B v v m := ⟨h, ⟨rfl, rfl, rfl, Nat.le_refl _, fun _ _ _ => rfl⟩, Fresh.same _ _⟩
theorem AP.step {w wr w' : World} {B : Nat} {v u u' : Value} {m m' : List UInt8} (h : AP w wr B v u m) (ho : Own w' B u' m') (hg : wr.grownBy w' u.ownBlock) (hf : Fresh wr u u') : AP w w' B v u' m' :=
  ⟨ho, ⟨hg.os.trans h.gr.os, hg.tape.trans h.gr.tape, hg.output.trans h.gr.output, Nat.le_trans h.gr.size hg.size, fun k hk hne =>
    (hg.block k (Nat.lt_of_lt_of_le hk h.gr.size) (Ne.symm (h.fr.not hk (Ne.symm hne)))).trans (h.gr.block k hk hne)⟩, h.fr.trans hf h.gr.size⟩
theorem AP.trans {w w1 w2 : World} {B : Nat} {v v1 v2 : Value} {m1 m2 : List UInt8} (h : AP w w1 B v v1 m1) (h2 : AP w1 w2 B v1 v2 m2) : AP w w2 B v v2 m2 := h.step h2.own h2.gr h2.fr
def strB (b : List UInt8) : ByteArray := ⟨(b.map (· + 48)).toArray⟩
theorem strB_size (b : List UInt8) : (strB b).size = b.length := by show (b.map (· + 48)).toArray.size = _; simp
theorem strB_at {b : List UInt8} {k : Nat} {x : UInt8} (h : b[k]? = some x) (hk : k < (strB b).size) : (strB b)[k] = x + 48 := by
  have h1 : (b.map (· + 48))[k]? = some (x + 48) := by rw [List.getElem?_map, h]; rfl
  have h2 := (List.getElem?_eq_some_iff.1 h1).2
  rw [ByteArray.getElem_eq_getElem_data]
  simpa [strB] using h2
theorem strAt_B (ls : List Nat) (s : Nat) : strAt ls s = strB (bitsO ls (s : Int)) := by
  unfold strAt rowS strB bitsO figL
  rw [List.take_of_length_le (by rw [List.length_reverse, lowB_length]; exact Nat.le_refl _), codeI_nat, lenI_nat]

set_option maxHeartbeats 4000000 in
set_option maxRecDepth 10000 in
theorem rcode_any (B : Nat) (v : Value) (m b : List UInt8) (w : World) (ho : Own w B v m) (hB : B ≤ w.heap.size) (hb : Bin b) (hL : m.length + b.length ≤ 1000000) :
    Calls Try.prog 34 #[v, .string (strB b)] w fun e w' => ∃ v', e = .returned v' ∧ AP w w' B v v' (m ++ b) := by
  obtain ⟨X, HX⟩ : ∃ X, RowKit.Hid (m ++ b = X) := ⟨_, Lib.hid rfl⟩
  rw [HX.out]
  have hsz := strB_size b
  have HAT : RowKit.Hid (∀ k x, b[k]? = some x → ∀ hk : k < (strB b).size, (strB b)[k] = x + 48) := Lib.hid (fun k x h hk => strB_at h hk)
  have HO := Lib.hid ho
  have HBB := Lib.hid hB
  have HBin := Lib.hid hb
  have HLL := Lib.hid hL
  generalize strB b = str at hsz HAT ⊢
  generalize hbl : b.length = n at hsz HLL
  have HN := Lib.hid hbl
  have hn : n ≤ 1000000 := by omega
  obtain ⟨A0, c0, hv0⟩ := ho.slice
  clear ho hB hb hL hbl
  go_enter Try.func34, Try.ntmps34
  go_wp2_with fail
  go_loopw [0, 5] (fun u i wr => ∃ k : Nat, k ≤ n ∧ i = .int .i64 (k : Int) ∧ AP w wr B v u (m ++ b.take k)) (fun _ i _ => n - (intOf i).toNat)
  case atStart => exact ⟨0, Nat.zero_le _, rfl, by simpa using AP.refl HO.out⟩
  case round =>
    obtain ⟨k, hk, rfl, hI⟩ := hrel
    by_cases hlt : k < n
    · have d1 : decide ((k : Int) < (str.size : Int)) = true := decide_eq_true (by omega)
      have hks : k < str.size := by omega
      obtain ⟨x, hx⟩ : ∃ x, b[k]? = some x := ⟨_, List.getElem?_eq_getElem (by rw [HN.out]; exact hlt)⟩
      have hch := HAT.out k x hx hks
      have hxb := HBin.out.at hx
      have hct : (x + 48).toNat = x.toNat + 48 := by
        rw [UInt8.toNat_add]
        show (x.toNat + 48) % 256 = _
        omega
      obtain ⟨ch, hchv⟩ : ∃ ch, x + 48 = ch := ⟨_, rfl⟩
      rw [hchv] at hch hct
      have hcs : ((ch.toNat : Int) - 48) % 256 = (x.toNat : Int) := by rw [hct]; omega
      have HT : RowKit.Hid (m ++ b.take k ++ [x] = m ++ b.take (k + 1)) := Lib.hid (by rw [List.take_add_one, hx]; simp)
      have HM : RowKit.Hid ((m ++ b.take k).length + 1 ≤ 1000000) := Lib.hid (by have := HLL.out; simp; omega)
      have HI := Lib.hid hI
      have HBW : RowKit.Hid (B ≤ wr.heap.size) := Lib.hid (Nat.le_trans HBB.out hI.gr.size)
      obtain ⟨Au, cu, rfl⟩ := hI.own.slice
      generalize m ++ b.take k = q at HI HT HM ⊢
      clear hx hchv hI
      go_wp2_with (at_builtin; refine push8 wr rfl _ _ rfl B (.slice Au q.length cu) q [x] _ 1 rfl rfl HI.out.own rfl rfl HBW.out HM.out ?_)
      intro v1 w1 ho1 hg1 hf1
      rw [HT.out] at ho1
      have HI1 := Lib.hid (HI.out.step ho1 hg1 hf1)
      clear ho1 hg1 hf1 hch
      go_wp2_with fail
      go_roundw
      case rel => exact ⟨k + 1, by omega, by simp, HI1.out⟩
      case measure => simp [intOf]; omega
    · obtain rfl : k = n := by omega
      have d1 : decide ((k : Int) < (str.size : Int)) = false := decide_eq_false (by omega)
      rw [List.take_of_length_le (by rw [HN.out]; exact Nat.le_refl _), HX.out] at hI
      have HF := Lib.hid hI
      obtain ⟨Au, cu, rfl⟩ := hI.own.slice
      generalize X.length = xl at HF ⊢
      clear hI
      go_wp2_with fail
      go_ret
      exact ⟨_, rfl, HF.out⟩

set_option maxHeartbeats 4000000 in
set_option maxRecDepth 10000 in
theorem rput_any (B : Nat) (v : Value) (m : List UInt8) (x n : Nat) (w : World) (ho : Own w B v m) (hB : B ≤ w.heap.size) (hx : x < 1000000) (hn : n ≤ 20) (hL : m.length ≤ 900000) :
    Calls Try.prog 36 #[v, .int .i64 (x : Int), .int .i64 (n : Int)] w fun e w' => ∃ v', e = .returned v' ∧ AP w w' B v v' (m ++ lowB x n) := by
  obtain ⟨X, HX⟩ : ∃ X, RowKit.Hid (m ++ lowB x n = X) := ⟨_, Lib.hid rfl⟩
  rw [HX.out]
  have HO := Lib.hid ho
  have HBB := Lib.hid hB
  have HLL := Lib.hid hL
  obtain ⟨A0, c0, hv0⟩ := ho.slice
  clear ho hB hL
  go_enter Try.func36, Try.ntmps36
  go_wp2_with fail
  go_loopw [0, 7] (fun u i wr => ∃ k : Nat, k ≤ n ∧ i = .int .i64 (k : Int) ∧ AP w wr B v u (m ++ lowB x k)) (fun _ i _ => n - (intOf i).toNat)
  case atStart => exact ⟨0, Nat.zero_le _, rfl, by simpa [lowB] using AP.refl HO.out⟩
  case round =>
    obtain ⟨k, hk, rfl, hI⟩ := hrel
    by_cases hlt : k < n
    · have d1 : decide ((k : Int) < (n : Int)) = true := decide_eq_true (by omega)
      have HT : RowKit.Hid (m ++ lowB x k ++ [bitN x k] = m ++ lowB x (k + 1)) := Lib.hid (by rw [lowB_succ]; simp)
      have HM : RowKit.Hid ((m ++ lowB x k).length + 1 ≤ 1000000) := Lib.hid (by have := HLL.out; simp [lowB_length]; omega)
      have HI := Lib.hid hI
      have HBW : RowKit.Hid (B ≤ wr.heap.size) := Lib.hid (Nat.le_trans HBB.out hI.gr.size)
      obtain ⟨Au, cu, rfl⟩ := hI.own.slice
      generalize m ++ lowB x k = q at HI HT HM ⊢
      have hk20 : k < 20 := by omega
      obtain ⟨y, hy⟩ : ∃ y, x / 2 ^ k = y := ⟨_, rfl⟩
      have hyx : y < 1000000 := by rw [← hy]; exact Nat.lt_of_le_of_lt (Nat.div_le_self _ _) hx
      have hyi : (x : Int) / 2 ^ k = (y : Int) := by rw [← hy]; simp
      have hod := oddI y hyx
      have hbt : (bitN x k).toNat = y % 2 := by rw [bitN_toNat, hy]
      have hbz : ((y % 2 : Nat) : Int) % 256 = ((bitN x k).toNat : Int) := by rw [hbt]; omega
      have hbt2 : ((y % 2 : Nat) : Int) = ((bitN x k).toNat : Int) := by rw [hbt]
      clear hI hy hbt
      go_wp2_with (at_builtin; refine push8 wr rfl _ _ rfl B (.slice Au q.length cu) q [bitN x k] _ 1 rfl rfl HI.out.own rfl rfl HBW.out HM.out ?_)
      intro v1 w1 ho1 hg1 hf1
      rw [HT.out] at ho1
      have HI1 := Lib.hid (HI.out.step ho1 hg1 hf1)
      clear ho1 hg1 hf1
      go_wp2_with fail
      go_roundw
      case rel => exact ⟨k + 1, by omega, by simp, HI1.out⟩
      case measure => simp [intOf]; omega
    · obtain rfl : k = n := by omega
      have d1 : decide ((k : Int) < (k : Int)) = false := decide_eq_false (by omega)
      rw [HX.out] at hI
      have HF := Lib.hid hI
      obtain ⟨Au, cu, rfl⟩ := hI.own.slice
      generalize X.length = xl at HF ⊢
      clear hI
      go_wp2_with fail
      go_ret
      exact ⟨_, rfl, HF.out⟩
end Go.Proofs.Ytnadnokjhinmcaa
