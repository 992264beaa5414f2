/- Contracts of codec.Base and codec.Url. -/
import Derived.Test.YtpgpdckjnmpdoaaSigns
import Derived.Test.YtpgpdckjnmpdoaaEnc
namespace Go.Proofs.Ytpgpdckjnmpdoaa
open Go.RowKit

set_option maxHeartbeats 400000 in
theorem url_any (A : Option Addr) (n c : Nat) (l : List UInt8) (w : World) (hr : Rd w w.heap.size A n (us l)) (hn : n ≤ 4000) :
    Calls Try.prog 12 #[.slice A n c] w fun e w' => e = .returned (.string ⟨(urlL SU l).toArray⟩) ∧ Below w.heap.size w w' := by
  have HR := Lib.hid hr
  clear hr
  go_enter Try.func12, Try.ntmps12
  go_wp2_with fail
  refine (signs_any SU A n c l w rfl HR.out hn).mono ?_
  rintro e w1 ⟨v, rfl, hG⟩
  obtain ⟨A', c', rfl⟩ := hG.own.slice
  have hst := str8 w1 _ A' _ c' _ hG.own.rd.2
  have HG := Lib.hid hG
  clear hG
  go_wp2_with fail
  go_ret
  exact ⟨rfl, HG.out.below⟩

set_option maxHeartbeats 400000 in
theorem base_any (A : Option Addr) (n c : Nat) (l : List UInt8) (w : World) (hr : Rd w w.heap.size A n (us l)) (hn : n ≤ 4000) :
    Calls Try.prog 10 #[.slice A n c] w fun e w' => e = .returned (.string ⟨(baseL SB l).toArray⟩) ∧ Below w.heap.size w w' := by
  have hl : l.length = n := by have := hr.1; rwa [us_length] at this
  have HR := Lib.hid hr
  have HL := Lib.hid hl
  clear hr hl
  go_enter Try.func10, Try.ntmps10
  go_wp2_with fail
  refine (signs_any SB A n c l w rfl HR.out hn).mono ?_
  rintro e w1 ⟨v, rfl, hG⟩
  have HG := Lib.hid hG
  clear hG
  go_wp2_with fail
  go_loopw [3] (fun v wr => ∃ o : List UInt8, pad o = baseL SB l ∧ Grows w v o wr) (fun v _ => match v with | .slice _ n _ => (4 - n % 4) % 4 | _ => 0)
  case atStart => exact ⟨_, rfl, HG.out⟩
  case round =>
    clear HG
    obtain ⟨o, ho, hG⟩ := hrel
    have hle : o.length ≤ 10000 := by
      have h1 := pad_length o
      rw [ho, baseL_length, HL.out] at h1
      omega
    obtain ⟨A', c', rfl⟩ := hG.own.slice
    have HO := Lib.hid ho
    clear ho
    by_cases h4 : o.length % 4 = 0
    · have hst := str8 wr _ A' _ c' _ hG.own.rd.2
      have HG := Lib.hid hG
      clear hG
      have h4i : (((o.length : Int) % 4) != 0) = false := by simp; omega
      rw [pad_done h4] at HO
      have H4 := Lib.hid h4
      clear h4
      go_wp2_with fail
      go_ret
      exact ⟨by rw [← HO.out]; rfl, HG.out.below⟩
    · have h4i : (((o.length : Int) % 4) != 0) = true := by simp; omega
      have HG := Lib.hid hG
      clear hG
      have H4 := Lib.hid h4
      clear h4
      go_wp2_with (at_builtin; refine push8 wr rfl (.tmp 10) (.tmp 11) rfl w.heap.size _ o [61] _ 1 rfl rfl HG.out.own rfl rfl HG.out.size (by omega) ?_)
      intro v' w' ho hg'
      have hG := HG.out.push ho hg'
      clear ho hg'
      obtain ⟨A2, c2, rfl⟩ := hG.own.slice
      have HG2 := Lib.hid hG
      clear hG
      go_wp2_with fail
      go_roundw
      case rel => exact ⟨o ++ [61], by rw [pad_more H4.out]; exact HO.out, HG2.out⟩
      case measure =>
        have := H4.out
        simp
        omega
end Go.Proofs.Ytpgpdckjnmpdoaa
