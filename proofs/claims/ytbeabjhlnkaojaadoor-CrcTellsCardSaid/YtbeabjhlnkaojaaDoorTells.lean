/- Contracts of alive and of the law CrcTells. -/
import Derived.Test.YtbeabjhlnkaojaaDoorRef
import Derived.Lib.SlBytesConst
namespace Go.Proofs.YtbeabjhlnkaojaaDoor
open Go.RowKit

theorem known : addP 0 [49, 50, 51, 52, 53, 54, 55, 56, 57] = 3421780262 := by decide +kernel

/-- Bytes that were just laid in a block of their own read as their list. -/
theorem Rd.laid (w : World) (cs : Array Value) (fr : Nat × Nat) (l : List UInt8) (n : Nat) (h : cs.toList = us l) (hn : l.length = n) :
    Rd (w.alloc (.cells cs 5 fr)) (w.alloc (.cells cs 5 fr)).heap.size (some ⟨w.heap.size, 0, none⟩) n (us l) := by
  refine ⟨by rw [us_length, hn], fun _ => ⟨w.heap.size, 0, rfl, by simp, fun j u hu => ?_⟩⟩
  have hc : ∀ j u, cs.toList[j]? = some u → (w.alloc (.cells cs 5 fr)).cell? ((⟨w.heap.size, 0, none⟩ : Addr).add j) = some u := World.news_of_block (fr := fr) (by exact heap_alloc_new w _)
  have := hc j u (by rw [h]; exact hu)
  rw [Go.WideShapes.add_plain] at this
  exact this

set_option maxHeartbeats 400000 in
theorem alive_true (w : World) (ht : Tabs w) : Calls Tryd.prog 7 #[] w fun e w' => e = .returned (.bool true) ∧ Below w.heap.size w w' := by
  have HT := Lib.hid ht
  clear ht
  have kc := fun (w : World) (C : Array Value) (n c : Nat) => Lib.run_convert_bytes_const (P := Tryd.prog) w 23 5 C n c Tryd.underlying23 Tryd.underlying5
  go_enter Tryd.func7, Tryd.ntmps7
  go_wp2_with fail
  have hb : Below w.heap.size w (w.alloc (.cells #[.int .u8 49, .int .u8 50, .int .u8 51, .int .u8 52, .int .u8 53, .int .u8 54, .int .u8 55, .int .u8 56, .int .u8 57] 5 (9, 10))) := (Below.refl _ _).alloc (Nat.le_refl _) _
  have ho := Rd.laid w #[.int .u8 49, .int .u8 50, .int .u8 51, .int .u8 52, .int .u8 53, .int .u8 54, .int .u8 55, .int .u8 56, .int .u8 57] (9, 10) [49, 50, 51, 52, 53, 54, 55, 56, 57] 9 rfl rfl
  clear kc
  refine (of_any _ 9 9 _ _ ho (HT.out.below hb HT.out.size) (by decide)).mono ?_
  generalize w.alloc (.cells #[.int .u8 49, .int .u8 50, .int .u8 51, .int .u8 52, .int .u8 53, .int .u8 54, .int .u8 55, .int .u8 56, .int .u8 57] 5 (9, 10)) = w1 at hb ho ⊢
  rintro e w2 ⟨rfl, rfl⟩
  rw [known]
  have HB := Lib.hid hb
  clear hb ho
  go_wp2_with fail
  go_ret
  exact ⟨rfl, HB.out⟩

theorem eq32 (x : UInt32) : ((x.toNat : Int) == (x.toNat : Int)) = true := beq_self_eq_true _

set_option maxHeartbeats 400000 in
theorem tells_any (s : UInt32) (A : Option Addr) (n c : Nat) (l : List UInt8) (w : World) (hr : Rd w w.heap.size A n (us l)) (ht : Tabs w) :
    Calls Tryd.prog 3 #[U32 s, .slice A n c] w fun e w' => e = .returned (.bool true) ∧ Below w.heap.size w w' := by
  have HR := Lib.hid hr
  have HT := Lib.hid ht
  clear hr ht
  go_enter Tryd.func3, Tryd.ntmps3
  go_wp2_with fail
  refine (alive_true w HT.out).mono ?_
  rintro e w1 ⟨rfl, hb1⟩
  have HR1 := Lib.hid (HR.out.next hb1)
  have HT1 := Lib.hid (HT.out.below hb1 HT.out.size)
  have HB := Lib.hid hb1
  clear hb1 HR HT
  by_cases hn : n ≤ 2000
  · have hd : decide (2000 < (n : Int)) = false := decide_eq_false (by omega)
    go_wp2_with fail
    refine (of_any A n c l w1 HR1.out HT1.out (by omega)).mono ?_
    rintro e w2 ⟨rfl, rfl⟩
    go_wp2_with fail
    refine (rof_any A n c l w2 HR1.out (by omega)).mono ?_
    rintro e w1 ⟨rfl, rfl⟩
    go_wp2_with fail
    refine (add_any s A n c l w1 HR1.out HT1.out (by omega)).mono ?_
    rintro e w2 ⟨rfl, rfl⟩
    go_wp2_with fail
    refine (radd_any s A n c l w2 HR1.out (by omega)).mono ?_
    rintro e w1 ⟨rfl, rfl⟩
    go_wp2_with fail
    go_ret
    exact ⟨rfl, HB.out⟩
  · have hd : decide (2000 < (n : Int)) = true := decide_eq_true (by omega)
    go_wp2_with fail
    go_ret
    exact ⟨rfl, HB.out⟩

end Go.Proofs.YtbeabjhlnkaojaaDoor
