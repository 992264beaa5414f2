/- Contracts of strings.IndexByte and strings.TrimSuffix as the codec calls them. -/
import Derived.Test.YtpgpdckjnmpdoaaSigns
import Derived.Test.YtpgpdckjnmpdoaaDec
import Derived.Lib.Strings
namespace Go.Proofs.Ytpgpdckjnmpdoaa
open Go.RowKit

theorem cf29 (S : ByteArray) (c : Int) (w : World) : (callFunc 29 #[.string S, .int .u8 c]).run Try.prog w = .ok (.value (.int .i64 (Lib.indexByte S.data.toList c.toNat.toUInt8))) w := by
  rw [run_callFunc_extern Try.func29 (by kernel_rfl) (by kernel_rfl) (by kernel_rfl) (e := Extern.BytealgIndexByte.indexByte) (by kernel_rfl), Lib.run_indexByteString]
  rfl

set_option maxHeartbeats 400000 in
theorem idx26 (S : ByteArray) (c : Int) (w : World) : Calls Try.prog 26 #[.string S, .int .u8 c] w fun e w' => e = .returned (.int .i64 (Lib.indexByte S.data.toList c.toNat.toUInt8)) ∧ w = w' := by
  have k := cf29
  go_enter Try.func26, Try.ntmps26
  go_wp2
  go_ret
  exact ⟨rfl, rfl⟩

set_option maxHeartbeats 400000 in
theorem idx22 (S : ByteArray) (c : Int) (w : World) : Calls Try.prog 22 #[.string S, .int .u8 c] w fun e w' => e = .returned (.int .i64 (Lib.indexByte S.data.toList c.toNat.toUInt8)) ∧ w = w' := by
  go_enter Try.func22, Try.ntmps22
  go_wp2_with fail
  refine (idx26 S c w).mono ?_
  rintro e w' ⟨rfl, rfl⟩
  go_wp2_with fail
  go_ret
  exact ⟨rfl, rfl⟩

theorem idx_some {S : ByteArray} {b : UInt8} {v : Nat} (h : val S b = some v) (w : World) : Calls Try.prog 22 #[.string S, .int .u8 (b.toNat : Int)] w fun e w' => e = .returned (.int .i64 (v : Int)) ∧ w = w' := by
  refine (idx22 S _ w).mono fun e w' ⟨h1, h2⟩ => ⟨?_, h2⟩
  rw [h1, index_val]
  have : ((b.toNat : Int).toNat).toUInt8 = b := by simp
  rw [this]
  unfold val at h
  rw [h]

theorem idx_none {S : ByteArray} {b : UInt8} (h : val S b = none) (w : World) : Calls Try.prog 22 #[.string S, .int .u8 (b.toNat : Int)] w fun e w' => e = .returned (.int .i64 (-1)) ∧ w = w' := by
  refine (idx22 S _ w).mono fun e w' ⟨h1, h2⟩ => ⟨?_, h2⟩
  rw [h1, index_val]
  have : ((b.toNat : Int).toNat).toUInt8 = b := by simp
  rw [this]
  unfold val at h
  rw [h]

def eqB : ByteArray := ⟨#[61]⟩

def stripB (s : ByteArray) : ByteArray := ⟨(strip s.data.toList).toArray⟩
def Ends (s : ByteArray) : Bool := decide (s.data.toList.getLast? = some 61)

theorem ends_eq (s : ByteArray) (h : 0 < s.size) : ((s.extract (s.size - 1) s.size).toList == [61]) = Ends s := by
  rw [Lib.extract_toList]
  unfold Ends
  have hl : s.data.toList.length = s.size := by simp
  have hne : s.data.toList ≠ [] := by intro e; rw [e] at hl; simp at hl; omega
  rw [← hl]
  generalize s.data.toList = l at hl hne
  have hd : l.drop (l.length - 1) = [l.getLast hne] := by
    conv => lhs; arg 2; rw [← List.dropLast_concat_getLast hne]
    rw [List.drop_append, List.length_dropLast]
    simp
  rw [hd, List.getLast?_eq_some_getLast hne, show l.length - (l.length - 1) = 1 by omega]
  by_cases h61 : l.getLast hne = 61
  · simp [h61]
  · simp [h61]

set_option maxHeartbeats 400000 in
theorem suf_no (s : ByteArray) (w : World) (hs : s.size ≤ 1000000) (he : Ends s = false) : Calls Try.prog 30 #[.string s, .string eqB] w fun e w' => e = .returned (.bool false) ∧ w = w' := by
  by_cases h : s.size = 0
  · have h1 : decide ((1 : Int) ≤ (s.size : Int)) = false := by simp; omega
    have H := Lib.hid h
    have HE := Lib.hid he
    clear h he
    unfold eqB
    go_enter Try.func30, Try.ntmps30
    go_wp2_with fail
    go_ret
    exact ⟨rfl, rfl⟩
  · have hp : 0 < s.size := by omega
    have h1 : decide ((1 : Int) ≤ (s.size : Int)) = true := by simp; omega
    have h2 := ends_eq s hp
    rw [he] at h2
    have HE := Lib.hid he
    clear he
    unfold eqB
    go_enter Try.func30, Try.ntmps30
    go_wp2_with fail
    go_ret
    exact ⟨rfl, rfl⟩

set_option maxHeartbeats 400000 in
theorem suf_yes (s : ByteArray) (w : World) (hs : s.size ≤ 1000000) (he : Ends s = true) : Calls Try.prog 30 #[.string s, .string eqB] w fun e w' => e = .returned (.bool true) ∧ w = w' := by
  have hp : 0 < s.size := by
    unfold Ends at he
    rcases Nat.eq_zero_or_pos s.size with h | h
    · have hl : s.data.toList.length = s.size := by simp
      rw [h] at hl
      rw [List.eq_nil_of_length_eq_zero hl] at he
      simp at he
    · exact h
  have h1 : decide ((1 : Int) ≤ (s.size : Int)) = true := by simp; omega
  have h2 := ends_eq s hp
  rw [he] at h2
  have HE := Lib.hid he
  clear he
  unfold eqB
  go_enter Try.func30, Try.ntmps30
  go_wp2_with fail
  go_ret
  exact ⟨rfl, rfl⟩

theorem strip_yes (s : ByteArray) (he : Ends s = true) : s.extract 0 (s.size - 1) = stripB s := by
  unfold Ends at he
  apply ByteArray.ext
  apply Array.toList_inj.1
  rw [Lib.extract_data]
  unfold stripB strip
  rw [if_pos (by simpa using he)]
  simp [List.dropLast_eq_take]
theorem strip_no (s : ByteArray) (he : Ends s = false) : stripB s = s := by
  unfold Ends at he
  apply ByteArray.ext
  unfold stripB strip
  rw [if_neg (by simpa using he)]

set_option maxHeartbeats 400000 in
theorem trim28 (s : ByteArray) (w : World) (hs : s.size ≤ 1000000) : Calls Try.prog 28 #[.string s, .string eqB] w fun e w' => e = .returned (.string (stripB s)) ∧ w = w' := by
  cases he : Ends s
  · have H1 := Lib.hid (strip_no s he)
    have HE := Lib.hid he
    clear he
    go_enter Try.func28, Try.ntmps28
    go_wp2_with fail
    refine (suf_no s w hs HE.out).mono ?_
    rintro e w' ⟨rfl, rfl⟩
    go_wp2_with fail
    go_ret
    exact ⟨by rw [H1.out]; rfl, rfl⟩
  · have H1 := Lib.hid (strip_yes s he)
    have HE := Lib.hid he
    clear he
    go_enter Try.func28, Try.ntmps28
    go_wp2_with fail
    refine (suf_yes s w hs HE.out).mono ?_
    rintro e w' ⟨rfl, rfl⟩
    have he2 : eqB.size = 1 := rfl
    have hp : 1 ≤ s.size := by
      have he := HE.out
      unfold Ends at he
      rcases Nat.eq_zero_or_pos s.size with h | h
      · have hl : s.data.toList.length = s.size := by simp
        rw [h] at hl
        rw [List.eq_nil_of_length_eq_zero hl] at he
        simp at he
      · exact h
    go_wp2_with fail
    go_ret
    exact ⟨by rw [← H1.out]; rfl, rfl⟩

set_option maxHeartbeats 400000 in
theorem trim24 (s : ByteArray) (w : World) (hs : s.size ≤ 1000000) : Calls Try.prog 24 #[.string s, .string eqB] w fun e w' => e = .returned (.string (stripB s)) ∧ w = w' := by
  go_enter Try.func24, Try.ntmps24
  go_wp2_with fail
  refine (trim28 s w hs).mono ?_
  rintro e w' ⟨rfl, rfl⟩
  go_wp2_with fail
  go_ret
  exact ⟨rfl, rfl⟩
end Go.Proofs.Ytpgpdckjnmpdoaa
