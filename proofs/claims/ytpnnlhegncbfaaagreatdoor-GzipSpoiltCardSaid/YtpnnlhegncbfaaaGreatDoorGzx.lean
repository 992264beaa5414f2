/- A packed text of which one byte of the sum, or of the size, was changed: what Unpack answers. -/
import Derived.Test.YtpnnlhegncbfaaaGreatDoorGzv
import Derived.Test.YtpnnlhegncbfaaaGreatDoorGzw
import Derived.Test.YtpnnlhegncbfaaaGreatDoorGzl
namespace Go.Proofs.YtpnnlhegncbfaaaGreatDoor
set_option maxRecDepth 20000
open Go.RowKit

theorem xor_ne (a d : UInt8) (h : d ≠ 0) : (a ^^^ d).toNat ≠ a.toNat := by
  intro e
  have h2 := UInt8.toNat_inj.1 e
  apply h
  have h3 : a ^^^ (a ^^^ d) = a ^^^ a := by rw [h2]
  rwa [← UInt8.xor_assoc, UInt8.xor_self, UInt8.zero_xor] at h3
theorem num4 (a b c d : UInt8) : numL [a, b, c, d] = a.toNat + 256 * (b.toNat + 256 * (c.toNat + 256 * d.toNat)) := by
  simp only [numL]
  omega
/-- A byte of the last eight was changed. -/
theorem spoilt (l : List UInt8) (z : Int) (j : Nat) (d : UInt8) (hj : j < 8) (hd : d ≠ 0) (hl : l.length < 4294967296) :
    ∃ S Z, (gzP l z).set ((gzP l z).length - 8 + j) ((gzP l z).getD ((gzP l z).length - 8 + j) 0 ^^^ d) = memB l z S Z ∧ S.length = 4 ∧ Z.length = 4 ∧
      ((j < 4 ∧ numL S ≠ (addP 0 l).toNat) ∨ (4 ≤ j ∧ numL S = (addP 0 l).toNat ∧ numL Z ≠ l.length)) := by
  have hs := numL_four (addP 0 l).toNat (u32_lt (addP 0 l))
  have hz := numL_four l.length hl
  obtain ⟨P, hP⟩ : ∃ P, headB ++ packT l z = P := ⟨_, rfl⟩
  have hg : ∀ S Z : List UInt8, memB l z S Z = P ++ (S ++ Z) := fun S Z => by unfold memB; rw [← hP, List.append_assoc]
  rw [gz_mem, hg]
  unfold fourB at hs hz ⊢
  generalize UInt8.ofNat ((addP 0 l).toNat % 256) = s0 at hs ⊢
  generalize UInt8.ofNat ((addP 0 l).toNat / 256 % 256) = s1 at hs ⊢
  generalize UInt8.ofNat ((addP 0 l).toNat / 65536 % 256) = s2 at hs ⊢
  generalize UInt8.ofNat ((addP 0 l).toNat / 16777216 % 256) = s3 at hs ⊢
  generalize UInt8.ofNat (l.length % 256) = z0 at hz ⊢
  generalize UInt8.ofNat (l.length / 256 % 256) = z1 at hz ⊢
  generalize UInt8.ofNat (l.length / 65536 % 256) = z2 at hz ⊢
  generalize UInt8.ofNat (l.length / 16777216 % 256) = z3 at hz ⊢
  rw [num4] at hs hz
  have hlen : (P ++ ([s0, s1, s2, s3] ++ [z0, z1, z2, z3])).length - 8 + j = P.length + j := by
    rw [List.length_append]
    show P.length + 8 - 8 + j = _
    omega
  rw [hlen, List.set_append_right _ _ (Nat.le_add_right _ _), Nat.add_sub_cancel_left]
  have hget : (P ++ ([s0, s1, s2, s3] ++ [z0, z1, z2, z3])).getD (P.length + j) 0 = ([s0, s1, s2, s3] ++ [z0, z1, z2, z3]).getD j 0 := by
    simp only [List.getD, List.getElem?_append_right (Nat.le_add_right _ _), Nat.add_sub_cancel_left]
  rw [hget]
  match j, hj with
  | 0, _ => exact ⟨[s0 ^^^ d, s1, s2, s3], [z0, z1, z2, z3], by rw [hg]; rfl, rfl, rfl, .inl ⟨by decide, by have := xor_ne s0 d hd; rw [num4]; omega⟩⟩
  | 1, _ => exact ⟨[s0, s1 ^^^ d, s2, s3], [z0, z1, z2, z3], by rw [hg]; rfl, rfl, rfl, .inl ⟨by decide, by have := xor_ne s1 d hd; rw [num4]; omega⟩⟩
  | 2, _ => exact ⟨[s0, s1, s2 ^^^ d, s3], [z0, z1, z2, z3], by rw [hg]; rfl, rfl, rfl, .inl ⟨by decide, by have := xor_ne s2 d hd; rw [num4]; omega⟩⟩
  | 3, _ => exact ⟨[s0, s1, s2, s3 ^^^ d], [z0, z1, z2, z3], by rw [hg]; rfl, rfl, rfl, .inl ⟨by decide, by have := xor_ne s3 d hd; rw [num4]; omega⟩⟩
  | 4, _ => exact ⟨[s0, s1, s2, s3], [z0 ^^^ d, z1, z2, z3], by rw [hg]; rfl, rfl, rfl, .inr ⟨by decide, by rw [num4]; exact hs, by have := xor_ne z0 d hd; rw [num4]; omega⟩⟩
  | 5, _ => exact ⟨[s0, s1, s2, s3], [z0, z1 ^^^ d, z2, z3], by rw [hg]; rfl, rfl, rfl, .inr ⟨by decide, by rw [num4]; exact hs, by have := xor_ne z1 d hd; rw [num4]; omega⟩⟩
  | 6, _ => exact ⟨[s0, s1, s2, s3], [z0, z1, z2 ^^^ d, z3], by rw [hg]; rfl, rfl, rfl, .inr ⟨by decide, by rw [num4]; exact hs, by have := xor_ne z2 d hd; rw [num4]; omega⟩⟩
  | 7, _ => exact ⟨[s0, s1, s2, s3], [z0, z1, z2, z3 ^^^ d], by rw [hg]; rfl, rfl, rfl, .inr ⟨by decide, by rw [num4]; exact hs, by have := xor_ne z3 d hd; rw [num4]; omega⟩⟩
set_option maxHeartbeats 1000000 in
theorem members_bad (k : Nat) (g : Nat) (A : Option Addr) (n c : Nat) (b : List UInt8) (lim : Nat) (v : Value) (w : World)
    (hm : Calls Tryz.prog 39 #[.pointer (some ⟨g, 0, none⟩)] w (ThrownM w g v k)) :
    Calls Tryz.prog 24 #[.pointer (some ⟨g, 0, none⟩)] w (MsM w g A n c b lim v (fun r => r = .error k)) := by
  have HM := Lib.hid hm
  clear hm
  go_enter Tryz.func24, Tryz.ntmps24
  go_wp2_with fail
  refine HM.out.mono ?_
  rintro e w1 ⟨q, v', rfl, h3⟩
  exact ⟨rfl, .inl ⟨k, rfl, ⟨q, v', rfl, h3⟩⟩⟩
theorem mem_len (l : List UInt8) (z : Int) (S Z : List UInt8) (hS : S.length = 4) (hZ : Z.length = 4) (hl : l.length ≤ 30000) : (memB l z S Z).length ≤ 320000 := by
  have h2 := packT_le l z hl
  unfold memB
  simp only [List.length_append, show headB.length = 10 from rfl, hS, hZ]
  omega
/-- Unpack of a member whose sum is wrong, or whose size. -/
theorem unpack_bad (A : Option Addr) (n c : Nat) (l : List UInt8) (z : Int) (S Z : List UInt8) (k lim : Nat) (w : World) (hr : Rd w w.heap.size A n (us (memB l z S Z))) (hA : A = none → c = 0) (hnc : n ≤ c) (hform : A = none ∨ ∃ q o, A = some ⟨q, o, none⟩)
    (hl : l.length ≤ 2000) (hlim : lim ≤ 1048576) (hll : l.length ≤ lim) (hS : S.length = 4) (hZ : Z.length = 4)
    (hk : (k = 6 ∧ numL S ≠ (addP 0 l).toNat) ∨ (k = 12 ∧ numL S = (addP 0 l).toNat ∧ numL Z ≠ l.length)) (ht : Tab w) (hts : Tabs w) (h0 : 2 < w.heap.size) :
    Calls Tryz.prog 7 #[.slice A n c, .int .i64 (lim : Int)] w (UpM w (fun r => r = .error k)) := by
  have hn : n ≤ 1000000 := by
    have h1 := hr.1
    rw [us_length] at h1
    have := mem_len l z S Z hS hZ (by omega)
    omega
  refine unpackz A n c lim _ w (gread_any A n c _ lim _ w hr hA hnc hform hn hlim ht hts h0 ?_)
  intro g wx hf
  refine members_bad k g A n c (memB l z S Z) lim (.slice none 0 0) wx ?_
  rcases hk with ⟨rfl, h1⟩ | ⟨rfl, h1, h2⟩
  · exact member_sum g A n c (memB l z S Z) [] lim (.slice none 0 0) 0 0 [] l S Z z wx hf (by rw [List.drop_zero, List.append_nil]) hS hZ (by omega) (by simpa using hll) h1
  · exact member_size g A n c (memB l z S Z) [] lim (.slice none 0 0) 0 0 [] l S Z z wx hf (by rw [List.drop_zero, List.append_nil]) hS hZ (by omega) (by simpa using hll) h1 h2
end Go.Proofs.YtpnnlhegncbfaaaGreatDoor
