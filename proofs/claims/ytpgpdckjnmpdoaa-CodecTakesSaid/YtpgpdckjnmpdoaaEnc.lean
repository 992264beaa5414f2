/- base64 by groups of three bytes: what toSigns comes to; its length; how it joins; the filling with = . No program is named here. -/
import Derived.Test.YtpgpdckjnmpdoaaPure
namespace Go.Proofs.Ytpgpdckjnmpdoaa

def SB : ByteArray := ⟨#[65, 66, 67, 68, 69, 70, 71, 72, 73, 74, 75, 76, 77, 78, 79, 80, 81, 82, 83, 84, 85, 86, 87, 88, 89, 90, 97, 98, 99, 100, 101, 102, 103, 104, 105, 106, 107, 108, 109, 110, 111, 112, 113, 114, 115, 116, 117, 118, 119, 120, 121, 122, 48, 49, 50, 51, 52, 53, 54, 55, 56, 57, 43, 47]⟩
def SU : ByteArray := ⟨#[65, 66, 67, 68, 69, 70, 71, 72, 73, 74, 75, 76, 77, 78, 79, 80, 81, 82, 83, 84, 85, 86, 87, 88, 89, 90, 97, 98, 99, 100, 101, 102, 103, 104, 105, 106, 107, 108, 109, 110, 111, 112, 113, 114, 115, 116, 117, 118, 119, 120, 121, 122, 48, 49, 50, 51, 52, 53, 54, 55, 56, 57, 45, 95]⟩

def encG (S : ByteArray) : List UInt8 → List UInt8
  | x :: y :: z :: r => sg S (x.toNat / 4) :: sg S (x.toNat % 4 * 16 + y.toNat / 16) :: sg S (y.toNat % 16 * 4 + z.toNat / 64) :: sg S (z.toNat % 64) :: encG S r
  | [x, y] => [sg S (x.toNat / 4), sg S (x.toNat % 4 * 16 + y.toNat / 16), sg S (y.toNat % 16 * 4)]
  | [x] => [sg S (x.toNat / 4), sg S (x.toNat % 4 * 16)]
  | [] => []

theorem step0 (S : ByteArray) (o : List UInt8) (x : UInt8) : step S (o, 0, 0) x = (o ++ [sg S (x.toNat / 4)], x.toNat % 4, 2) := by
  simp [step, drain]
theorem step2 (S : ByteArray) (o : List UInt8) (h : Nat) (x : UInt8) : step S (o, h, 2) x = (o ++ [sg S (h * 16 + x.toNat / 16)], x.toNat % 16, 4) := by
  simp only [step, drain]
  rw [if_neg (by decide), if_pos (by decide), show (h * 256 + x.toNat) / 16 = h * 16 + x.toNat / 16 by omega, show (h * 256 + x.toNat) % 16 = x.toNat % 16 by omega]
theorem step4 (S : ByteArray) (o : List UInt8) (h : Nat) (x : UInt8) : step S (o, h, 4) x = (o ++ [sg S (h * 4 + x.toNat / 64)] ++ [sg S (x.toNat % 64)], 0, 0) := by
  simp only [step, drain]
  rw [if_pos (by decide), show (h * 256 + x.toNat) / 64 = h * 4 + x.toNat / 64 by omega, show (h * 256 + x.toNat) % 64 = x.toNat % 64 by omega]

theorem flush_enc (S : ByteArray) : ∀ (l : List UInt8) (o : List UInt8), flush S (l.foldl (step S) (o, 0, 0)) = o ++ encG S l
  | [], o => by simp [flush, encG]
  | [x], o => by simp [step0, flush, encG]
  | [x, y], o => by simp [step0, step2, flush, encG]
  | x :: y :: z :: r, o => by
    rw [List.foldl_cons, List.foldl_cons, List.foldl_cons, step0, step2, step4, flush_enc S r]
    simp [encG]

theorem signsL_enc (S : ByteArray) (l : List UInt8) : signsL S l = encG S l := by
  unfold signsL st; rw [flush_enc]; rfl

theorem encG_length (S : ByteArray) : ∀ l : List UInt8, (encG S l).length = (l.length * 8 + 5) / 6
  | [] => rfl
  | [x] => by simp [encG]
  | [x, y] => by simp [encG]
  | x :: y :: z :: r => by simp only [encG, List.length_cons, encG_length S r]; omega

theorem encG_append (S : ByteArray) : ∀ (a b : List UInt8), a.length % 3 = 0 → encG S (a ++ b) = encG S a ++ encG S b
  | [], b, _ => rfl
  | [x], b, h => by simp at h
  | [x, y], b, h => by simp at h
  | x :: y :: z :: r, b, h => by
    have := encG_append S r b (by simp at h; omega)
    simp [encG, this]

def pad (o : List UInt8) : List UInt8 := o ++ List.replicate ((4 - o.length % 4) % 4) 61

theorem pad_done {o : List UInt8} (h : o.length % 4 = 0) : pad o = o := by simp [pad, h]
theorem pad_more {o : List UInt8} (h : o.length % 4 ≠ 0) : pad (o ++ [61]) = pad o := by
  unfold pad
  rw [List.length_append, List.length_singleton, show (4 - o.length % 4) % 4 = (4 - (o.length + 1) % 4) % 4 + 1 by omega, List.replicate_succ]
  simp
theorem pad_length (o : List UInt8) : (pad o).length = (o.length + 3) / 4 * 4 := by
  unfold pad; rw [List.length_append, List.length_replicate]; omega

def baseL (S : ByteArray) (l : List UInt8) : List UInt8 := pad (signsL S l)
def urlL (S : ByteArray) (l : List UInt8) : List UInt8 := signsL S l

theorem urlL_length (S : ByteArray) (l : List UInt8) : (urlL S l).length = (l.length * 8 + 5) / 6 := by unfold urlL; rw [signsL_enc, encG_length]
theorem baseL_length (S : ByteArray) (l : List UInt8) : (baseL S l).length = (l.length + 2) / 3 * 4 := by
  unfold baseL; rw [pad_length, signsL_enc, encG_length]; omega
theorem urlL_append (S : ByteArray) (a b : List UInt8) (h : a.length % 3 = 0) : urlL S (a ++ b) = urlL S a ++ urlL S b := by
  unfold urlL; rw [signsL_enc, signsL_enc, signsL_enc, encG_append S a b h]
theorem baseL_append (S : ByteArray) (a b : List UInt8) (h : a.length % 3 = 0) : baseL S (a ++ b) = baseL S a ++ baseL S b := by
  unfold baseL; rw [signsL_enc, signsL_enc, signsL_enc, encG_append S a b h]
  have h4 : (encG S a).length % 4 = 0 := by rw [encG_length]; omega
  rw [pad_done h4]
  unfold pad
  rw [List.length_append, show ((encG S a).length + (encG S b).length) % 4 = (encG S b).length % 4 by omega]
  simp
end Go.Proofs.Ytpgpdckjnmpdoaa
