/- The laws' fixed fact. -/
import Derived.Test.YtpgpdckjnmpdoaaBase
namespace Go.Proofs.Ytpgpdckjnmpdoaa
open Go.RowKit

set_option maxHeartbeats 400000 in
theorem alive_true (w : World) : Calls Try.prog 7 #[] w fun e w' => e = .returned (.bool true) ∧ Below w.heap.size w w' := by
  go_enter Try.func7, Try.ntmps7
  go_wp2_with fail
  have hw := Own.lit w #[.int .u8 102, .int .u8 111] [102, 111] 2 rfl rfl (by decide)
  have hb : Below w.heap.size w (w.alloc (.cells #[.int .u8 102, .int .u8 111] 5)) := (Below.refl _ _).alloc (Nat.le_refl _) _
  have hr := hw.rd.2
  generalize w.alloc (.cells #[.int .u8 102, .int .u8 111] 5) = w0 at hw hb hr ⊢
  have HB := Lib.hid hb
  have HR := Lib.hid hr
  clear hw hr hb
  refine (hex_any _ 2 2 [102, 111] w0 HR.out (by decide)).mono ?_
  rintro e w1 ⟨rfl, hb1⟩
  rw [show hexL [102, 111] = [54, 54, 54, 102] by decide +kernel]
  have HR1 := Lib.hid (HR.out.next hb1)
  have HB1 := Lib.hid (HB.out.trans (hb1.mono HB.out.size))
  clear hb1 HR HB
  go_wp2_with fail
  refine (base_any _ 2 2 [102, 111] w1 HR1.out (by decide)).mono ?_
  rintro e w2 ⟨rfl, hb2⟩
  rw [show baseL SB [102, 111] = [90, 109, 56, 61] by decide +kernel]
  have HR2 := Lib.hid (HR1.out.next hb2)
  have HB2 := Lib.hid (HB1.out.trans (hb2.mono HB1.out.size))
  clear hb2 HR1 HB1
  go_wp2_with fail
  refine (url_any _ 2 2 [102, 111] w2 HR2.out (by decide)).mono ?_
  rintro e w3 ⟨rfl, hb3⟩
  rw [show urlL SU [102, 111] = [90, 109, 56] by decide +kernel]
  have HB3 := Lib.hid (HB2.out.trans (hb3.mono HB2.out.size))
  clear hb3 HR2 HB2
  go_wp2_with fail
  go_ret
  exact ⟨rfl, HB3.out⟩
end Go.Proofs.Ytpgpdckjnmpdoaa
