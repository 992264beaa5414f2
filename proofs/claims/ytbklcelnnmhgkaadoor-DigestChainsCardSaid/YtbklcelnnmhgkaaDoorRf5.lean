/- Contracts of the reference's Of and Chain. -/
import Derived.Test.YtbklcelnnmhgkaaDoorNam
import Derived.Test.YtbklcelnnmhgkaaDoorOref
import Derived.Test.YtbklcelnnmhgkaaDoorRfH
import Derived.Lib.ConvBytes
namespace Go.Proofs.YtbklcelnnmhgkaaDoor
open Go.RowKit

set_option maxHeartbeats 400000 in
theorem rof_any (A : Option Addr) (n c : Nat) (l : List UInt8) (w : World) (hr : Rd w w.heap.size A n (us l)) (hc : A = none → c = 0) (hn : n ≤ 420) :
    Calls Tryd.prog 9 #[.slice A n c] w fun e w' => e = .returned (.string (nameP (ofP l))) ∧ Below w.heap.size w w' := by
  have HR := Lib.hid hr
  have HC := Lib.hid hc
  have HN := Lib.hid hn
  clear hr hc hn
  obtain ⟨L, HO⟩ : ∃ L, RowKit.Hid (ofP l = L) := ⟨_, Lib.hid rfl⟩
  have hLL : L.length = 32 := by rw [← HO.out]; rfl
  have HLL := Lib.hid hLL
  rw [HO.out]
  clear hLL
  go_enter Tryd.func9, Tryd.ntmps9
  go_wp2_with (first
    | (go_at_call 20; refine (refof_any A n c l w HR.out HC.out HN.out).mono ?_; rintro e w1 ⟨rfl, hb1⟩; have HB1 := Lib.hid hb1; clear hb1; rw [show refP l = L by rw [← HO.out]; exact (of_ref l).symm])
    | (with_reducible refine halt_alloc 23 ?_))
  refine Lib.hid ?_
  refine alloc_row rfl 23 rfl _ 32 info24 ?_
  intro w2 r2 g2 s2
  refine store_row rfl 23 _ _ rfl w1.heap.size (u8s L) rfl rfl 23 _ r2 32 size24 (by rw [u8s_size, HLL.out]) (u8s_size _) (u8s_one _) ?_
  intro w3 r3 g3 s3
  have HR3 := Lib.hid (r3.rd HLL.out)
  have HB := Lib.hid ((HB1.out.grown g2 HB1.out.size (fun _ h => by cases h)).grown g3 (by have := HB1.out.size; omega) (fun k h => by injection h with h; have := HB1.out.size; omega))
  clear r2 g2 s2 r3 g3 s3
  go_wp2_with fail
  refine (refhex_any _ 32 32 L w3 HR3.out (by decide)).mono ?_
  rintro e w4 ⟨rfl, hb4⟩
  have HB4 := Lib.hid (HB.out.trans (hb4.mono HB.out.size))
  clear hb4 HB HR3
  have hsz : ¬ 9223372036854775807 < 7 + (hexL L).length := by rw [hexL_length, HLL.out]; decide
  go_wp2_with fail
  go_ret
  exact ⟨by rw [pre_append]; rfl, HB4.out⟩
end Go.Proofs.YtbklcelnnmhgkaaDoor
