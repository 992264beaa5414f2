/- Contract of the law CrcCuts. -/
import Derived.Test.YtbeabjhlnkaojaaDoorTells
namespace Go.Proofs.YtbeabjhlnkaojaaDoor
open Go.RowKit

theorem Own.keeps {w0 a w' : World} {B : Nat} {v : Value} {l : List UInt8} (h : Own a B v l) (hg : a.grownBy w' v.ownBlock) (hb : Below w0.heap.size w0 a) (hB : w0.heap.size ≤ B) : Below w0.heap.size w0 w' :=
  hb.grown hg hb.size (fun k e => by have := (World.ownsRow.lt h k e).1; omega)

set_option maxHeartbeats 400000 in
theorem cuts_any (s : UInt32) (A : Option Addr) (n c : Nat) (l : List UInt8) (A' : Option Addr) (n' c' : Nat) (l' : List UInt8) (w : World)
    (hr : Rd w w.heap.size A n (us l)) (hA : A = none → c = 0) (hr' : Rd w w.heap.size A' n' (us l')) (hA' : A' = none → c' = 0) (ht : Tabs w) :
    Calls Tryd.prog 4 #[U32 s, .slice A n c, .slice A' n' c'] w fun e w' => e = .returned (.bool true) ∧ Below w.heap.size w w' := by
  have hl : l.length = n := by have := hr.1; rwa [us_length] at this
  have hl' : l'.length = n' := by have := hr'.1; rwa [us_length] at this
  have HL := Lib.hid hl
  have HL' := Lib.hid hl'
  have HA := Lib.hid hA
  have HA' := Lib.hid hA'
  have HR := Lib.hid hr
  have HR' := Lib.hid hr'
  have HT := Lib.hid ht
  clear hr ht hr' hA hA' hl hl'
  go_enter Tryd.func4, Tryd.ntmps4
  go_wp2_with fail
  refine (alive_true w HT.out).mono ?_
  rintro e w1 ⟨rfl, hb1⟩
  have HB1 := Lib.hid hb1
  clear hb1
  by_cases hn : n ≤ 2000
  · have hd : decide (2000 < (n : Int)) = false := decide_eq_false (by omega)
    by_cases hn' : n' ≤ 2000
    · have hd' : decide (2000 < (n' : Int)) = false := decide_eq_false (by omega)
      have hb2 : Below w.heap.size w (w1.alloc (.cells #[] 5)) := HB1.out.alloc HB1.out.size _
      have HO0 := Lib.hid (Own.lit w1 #[] [] 0 rfl rfl (by decide))
      have HB2 := Lib.hid hb2
      clear hb2
      go_wp2_with (at_builtin; refine cat8 (w1.alloc (.cells #[] 5)) rfl (.tmp 18) (.tmp 19) rfl w1.heap.size w.heap.size _ [] l A n c rfl rfl HO0.out (HR.out.below HB2.out) HA.out (by simp) (by simp; omega) ?_)
      intro v2 w2 ho2 hg2
      have hb3 : Below w.heap.size w w2 := HO0.out.keeps hg2 HB2.out HB1.out.size
      change Own w2 w1.heap.size v2 l at ho2
      have hz2 : w1.heap.size ≤ w2.heap.size := Nat.le_trans (by simp) hg2.size
      obtain ⟨A2, c2, rfl⟩ := ho2.slice
      have HZ2 := Lib.hid hz2
      have HO2 := Lib.hid ho2
      have HB3 := Lib.hid hb3
      clear ho2 hg2 hb3 HO0 HB2 hz2
      go_wp2_with (at_builtin; refine cat8 w2 rfl (.tmp 20) (.tmp 21) rfl w1.heap.size w.heap.size _ l l' A' n' c' rfl rfl HO2.out (HR'.out.below HB3.out) HA'.out HZ2.out (by have := HL.out; omega) ?_)
      intro v3 w3 ho3 hg3
      have hb4 : Below w.heap.size w w3 := HO2.out.keeps hg3 HB3.out HB1.out.size
      obtain ⟨A3, c3, rfl⟩ := ho3.slice
      have hlen : (l ++ l').length = n + n' := by rw [List.length_append, HL.out, HL'.out]
      have HR3 := Lib.hid ho3.rd.2
      rw [hlen] at HR3 ⊢
      have HR1 := Lib.hid (HR.out.next hb4)
      have HR2 := Lib.hid (HR'.out.next hb4)
      have HT1 := Lib.hid (HT.out.below hb4 HT.out.size)
      have HB4 := Lib.hid hb4
      have HE1 : RowKit.Hid (addP (addP 0 l) l' = addP 0 (l ++ l')) := Lib.hid (addP_append 0 l l')
      have HE2 : RowKit.Hid (addP (addP s l) l' = addP s (l ++ l')) := Lib.hid (addP_append s l l')
      have HE3 : RowKit.Hid (addP s [] = s) := Lib.hid (addP_nil s)
      clear ho3 hg3 hb4 hlen HO2 HB3 HZ2 HB1 HR HR' HT HA HA'
      go_wp2_with fail
      refine (of_any A n c l w3 HR1.out HT1.out (by omega)).mono ?_
      rintro e w4 ⟨rfl, rfl⟩
      go_wp2_with fail
      refine (add_any _ A' n' c' l' w4 HR2.out HT1.out (by omega)).mono ?_
      rintro e w3 ⟨rfl, rfl⟩
      rw [HE1.out]
      go_wp2_with fail
      refine (of_any A3 (n + n') c3 _ w3 HR3.out HT1.out (by omega)).mono ?_
      rintro e w4 ⟨rfl, rfl⟩
      go_wp2_with fail
      refine (add_any s A n c l w4 HR1.out HT1.out (by omega)).mono ?_
      rintro e w3 ⟨rfl, rfl⟩
      go_wp2_with fail
      refine (add_any _ A' n' c' l' w3 HR2.out HT1.out (by omega)).mono ?_
      rintro e w4 ⟨rfl, rfl⟩
      rw [HE2.out]
      go_wp2_with fail
      refine (add_any s A3 (n + n') c3 _ w4 HR3.out HT1.out (by omega)).mono ?_
      rintro e w3 ⟨rfl, rfl⟩
      go_wp2_with fail
      refine (add_any s none 0 0 [] w3 ⟨rfl, fun h => absurd h (by decide)⟩ HT1.out (by decide)).mono ?_
      rintro e w4 ⟨rfl, rfl⟩
      rw [HE3.out]
      go_wp2_with fail
      go_ret
      exact ⟨rfl, HB4.out⟩
    · have hd' : decide (2000 < (n' : Int)) = true := decide_eq_true (by omega)
      go_wp2_with fail
      go_ret
      exact ⟨rfl, HB1.out⟩
  · have hd : decide (2000 < (n : Int)) = true := decide_eq_true (by omega)
    go_wp2_with fail
    go_ret
    exact ⟨rfl, HB1.out⟩

end Go.Proofs.YtbeabjhlnkaojaaDoor
