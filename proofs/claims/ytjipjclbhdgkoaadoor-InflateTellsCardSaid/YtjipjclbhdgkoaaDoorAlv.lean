/- The fixed fact; that two rows of bytes are the same. -/
import Derived.Test.YtjipjclbhdgkoaaDoorMif
namespace Go.Proofs.YtjipjclbhdgkoaaDoor
open Go.RowKit

theorem Tab.below {w w' : World} {B : Nat} (h : Tab w) (h0 : 0 < B) (hb : Below B w w') : Tab w' := h.block (hb.block 0 h0)
theorem alive_inf : inflF (8 * ([1, 1, 0, 254, 255, 65] : List UInt8).length + 1) (bitsL [1, 1, 0, 254, 255, 65]) 10 = .ok ((), ⟨48, [65], 2⟩) := by kernel_rfl

set_option maxHeartbeats 1000000 in
theorem alive_true (w : World) (ht : Tab w) (h0 : 0 < w.heap.size) : Calls Tryd.prog 7 #[] w fun e w' => e = .returned (.bool true) ∧ Below w.heap.size w w' := by
  have hga := World.grownBy_alloc w (.cells #[.int .u8 1, .int .u8 1, .int .u8 0, .int .u8 254, .int .u8 255, .int .u8 65] 5) none
  have hb := below_make hga
  have ho := Own.lit w #[.int .u8 1, .int .u8 1, .int .u8 0, .int .u8 254, .int .u8 255, .int .u8 65] [1, 1, 0, 254, 255, 65] 6 (by kernel_rfl) rfl (by decide)
  have HI := Lib.hid (inflate_any (some ⟨w.heap.size, 0, none⟩) 6 6 [1, 1, 0, 254, 255, 65] 10 _ ho.rd.2 (by simp) (by decide) (by decide) (ht.below h0 hb) (Nat.lt_of_lt_of_le h0 hb.size))
  have HB := Lib.hid hb
  clear hga hb ho ht h0
  go_enter Tryd.func7, Tryd.ntmps7
  go_wp2_with fail
  refine HI.out.mono ?_
  rintro e w2 ⟨hb2, ⟨k, hk, _⟩ | ⟨s, u, hs, rfl, hu⟩⟩
  · rw [alive_inf] at hk; cases hk
  rw [alive_inf] at hs
  injection hs with hs
  injection hs with _ hs
  subst hs
  obtain ⟨A2, c2, rfl⟩ := hu.slice
  have hst := str8 (w2.alloc (.cells #[.slice A2 1 c2, .int .i64 6, .int .i64 2] 25)) _ A2 1 c2 [65] (hu.rd.2.next (below_make (World.grownBy_alloc w2 _ none)))
  have HB2 : RowKit.Hid (Below w.heap.size w (w2.alloc (.cells #[.slice A2 1 c2, .int .i64 6, .int .i64 2] 25))) := Lib.hid (by
    have h1 := HB.out
    have h2 : Below w.heap.size _ w2 := hb2.mono h1.size
    exact (h1.trans h2).grown (World.grownBy_alloc w2 _ none) (h1.trans h2).size (fun _ h => by cases h))
  clear hb2 hu HI HB
  go_wp2_with fail
  go_ret
  exact ⟨rfl, HB2.out⟩

set_option maxHeartbeats 400000 in
theorem bytes_same (A B : Option Addr) (n c d : Nat) (l : List UInt8) (w : World) (hA : Rd w w.heap.size A n (us l)) (hB : Rd w w.heap.size B n (us l)) :
    Calls Tryd.prog 11 #[.slice A n c, .slice B n d] w fun e w' => e = .returned (.bool true) ∧ w' = w := by
  have h1 := str8 w _ A n c l hA
  have h2 := str8 w _ B n d l hB
  clear hA hB
  go_enter Tryd.func11, Tryd.ntmps11
  go_wp2_with fail
  go_ret
  exact ⟨rfl, rfl⟩
end Go.Proofs.YtjipjclbhdgkoaaDoor
