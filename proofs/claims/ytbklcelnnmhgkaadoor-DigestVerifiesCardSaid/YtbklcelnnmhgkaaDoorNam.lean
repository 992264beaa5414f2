/- What all contracts of digest need: rows of bytes as arrays and slices, one part, names. Contracts of digest.Name and digest.Of; the laws' fixed fact. -/
import Derived.Test.YtbklcelnnmhgkaaDoorOf
import Derived.Test.YtbklcelnnmhgkaaDoorEq
import Derived.Test.YtbklcelnnmhgkaaDoorRefP
import Derived.Test.YtbklcelnnmhgkaaDoorHex
import Derived.Stop.BytesEq
namespace Go.Proofs.YtbklcelnnmhgkaaDoor
open Go.RowKit

theorem grown_of_below {w w' : World} (h : Below w.heap.size w w') : w.grownBy w' none := ⟨h.os, h.tape, h.output, h.size, fun k hk _ => h.block k hk⟩
theorem size5 (w : World) : (sizeOf 5).run Tryd.prog w = .ok 1 w := by
  obtain ⟨i0, hi, _, hz1, _⟩ := info_parts info5
  simp [sizeOf, typeInfo, hi, hz1]
theorem eq25 (L M : List UInt8) (hL : L.length = 32) (hM : M.length = 32) (w : World) : (Op.equalIn 10000 24 (.agg (u8s L)) (.agg (u8s M))).run Tryd.prog w = .ok (L == M) w :=
  run_equalIn_bytes w 9998 24 5 32 Tryd.underlying24 Tryd.underlying5 size5 L M hL hM
theorem same25 (L : List UInt8) (hL : L.length = 32) (w : World) : (Op.equalIn 10000 24 (.agg (u8s L)) (.agg (u8s L))).run Tryd.prog w = .ok true w := by
  rw [eq25 L L hL hL]; simp
theorem ofP_length (l : List UInt8) : (ofP l).length = 32 := rfl
theorem sumP_length (h : HS) : (sumP h).length = 32 := rfl

theorem RdP.lit (w : World) (cs : Array Value) (vs : List Value) (ls : List (List UInt8)) (n : Nat) (hv : cs.toList = vs) (h1 : vs.length = n) (h2 : ls.length = n)
    (hr : ∀ (j : Nat) (u : Value) (l : List UInt8), vs[j]? = some u → ls[j]? = some l → ∃ (A' : Option Addr) (n' c' : Nat), u = Value.slice A' n' c' ∧ (A' = none → c' = 0) ∧ Rd w w.heap.size A' n' (us l)) :
    RdP (w.alloc (.cells cs 22)) (some ⟨w.heap.size, 0, none⟩) n vs ls := by
  have hb : Below w.heap.size w (w.alloc (.cells cs 22)) := (Below.refl _ _).alloc (Nat.le_refl _) _
  refine ⟨h1, h2, fun _ => ⟨w.heap.size, 0, rfl, by simp, fun j u hu => ?_⟩, fun j u l hu hl => ?_⟩
  · have := cells_new w cs 22 j u (by rw [hv]; exact hu)
    rw [Go.WideShapes.add_plain] at this
    exact this
  · obtain ⟨A', n', c', rfl, hc, hrd⟩ := hr j u l hu hl
    exact ⟨A', n', c', rfl, hc, hrd.next hb⟩


theorem Row.rd {w : World} {g n : Nat} {L : List UInt8} {t : TypeId} (h : Row w g (u8s L) t) (hn : L.length = n) : Rd w w.heap.size (some ⟨g, 0, none⟩) n (us L) :=
  ⟨by rw [us_length, hn], fun _ => ⟨g, 0, rfl, h.lt, fun j u hu => by rw [Nat.zero_add, h.cell, ← hu]; simp [u8s]⟩⟩
theorem rd_part {w : World} {A : Option Addr} {n c : Nat} {l : List UInt8} (h : Rd w w.heap.size A n (us l)) (hc : A = none → c = 0) :
    RdP (w.alloc (.cells #[.slice A n c] 22)) (some ⟨w.heap.size, 0, none⟩) 1 [.slice A n c] [l] :=
  RdP.lit w #[.slice A n c] [.slice A n c] [l] 1 rfl rfl rfl (fun j u m hu hl => by
    match j, hu, hl with
    | 0, hu, hl =>
      injection hu with hu
      injection hl with hl
      subst hu hl
      exact ⟨A, n, c, rfl, hc, h⟩)

def preA : ByteArray := ⟨#[115, 104, 97, 50, 53, 54, 58]⟩
def preL : List UInt8 := [115, 104, 97, 50, 53, 54, 58]
/-- A digest's name. -/
def nameP (L : List UInt8) : ByteArray := ⟨(preL ++ hexL L).toArray⟩
theorem pre_append (l : List UInt8) : (⟨#[115, 104, 97, 50, 53, 54, 58]⟩ : ByteArray) ++ ⟨l.toArray⟩ = ⟨(preL ++ l).toArray⟩ := by
  apply ByteArray.ext
  show (_ : ByteArray).data = _
  simp [preL, ByteArray.data_append]

set_option maxHeartbeats 400000 in
theorem name_any (L : List UInt8) (hL : L.length = 32) (w : World) : Calls Tryd.prog 10 #[.agg (u8s L)] w fun e w' => e = .returned (.string (nameP L)) ∧ Below w.heap.size w w' := by
  have HL := Lib.hid hL
  clear hL
  go_enter Tryd.func10, Tryd.ntmps10
  go_upto_region 0 with fail
  go_step
  refine box_row rfl 24 _ rfl (u8s L) rfl ?_
  intro w1 r1 g1 s1
  have HR := Lib.hid (r1.rd HL.out)
  have HB := Lib.hid (below_make g1)
  clear r1 g1 s1
  go_wp2_with fail
  refine (hex_any _ 32 32 L w1 HR.out (by decide)).mono ?_
  rintro e w2 ⟨rfl, hb⟩
  have HB2 := Lib.hid (HB.out.trans (hb.mono HB.out.size))
  clear hb HB HR
  have hsz : ¬ 9223372036854775807 < 7 + (hexL L).length := by rw [hexL_length, HL.out]; decide
  go_wp2_with fail
  go_ret
  exact ⟨by rw [pre_append]; rfl, HB2.out⟩

set_option maxHeartbeats 400000 in
theorem dof_any (A : Option Addr) (n c : Nat) (l : List UInt8) (w : World) (hr : Rd w w.heap.size A n (us l)) (hc : A = none → c = 0) (ht : Tabs w) (hn : n ≤ 400000) :
    Calls Tryd.prog 8 #[.slice A n c] w fun e w' => e = .returned (.string (nameP (ofP l))) ∧ Below w.heap.size w w' := by
  have hl : l.length = n := by have := hr.1; rwa [us_length] at this
  have hrp := rd_part hr hc
  have hb : Below w.heap.size w (w.alloc (.cells #[.slice A n c] 22)) := (Below.refl _ _).alloc (Nat.le_refl _) _
  have HRP := Lib.hid hrp
  have HL := Lib.hid hl
  have HT := Lib.hid (ht.below hb ht.size)
  have HB := Lib.hid hb
  clear hr hc ht hrp hb hl
  obtain ⟨L, HO⟩ : ∃ L, RowKit.Hid (ofP l = L) := ⟨_, Lib.hid rfl⟩
  have hLL : L.length = 32 := by rw [← HO.out]; rfl
  rw [HO.out]
  go_enter Tryd.func8, Tryd.ntmps8
  go_wp2_with fail
  generalize w.alloc (.cells #[.slice A n c] 22) = w1 at HRP HT HB ⊢
  refine (of_any _ 1 1 _ _ w1 HRP.out HT.out (by have := HL.out; simp; omega) (by decide)).mono ?_
  rintro e w2 ⟨rfl, hb2⟩
  rw [show ofP [l].flatten = L by rw [← HO.out]; simp]
  have HB2 := Lib.hid (HB.out.trans (hb2.mono HB.out.size))
  clear hb2 HRP HT HB
  go_wp2_with fail
  refine (name_any L hLL w2).mono ?_
  rintro e w3 ⟨rfl, hb3⟩
  have HB3 := Lib.hid (HB2.out.trans (hb3.mono HB2.out.size))
  clear hb3 HB2
  go_wp2_with fail
  go_ret
  exact ⟨rfl, HB3.out⟩

theorem empty_name : nameP (ofP []) = ⟨([115, 104, 97, 50, 53, 54, 58, 101, 51, 98, 48, 99, 52, 52, 50, 57, 56, 102, 99, 49, 99, 49, 52, 57, 97, 102, 98, 102, 52, 99, 56, 57, 57, 54, 102].append [98, 57, 50, 52, 50, 55, 97, 101, 52, 49, 101, 52, 54, 52, 57, 98, 57, 51, 52, 99, 97, 52, 57, 53, 57, 57, 49, 98, 55, 56, 53, 50, 98, 56, 53, 53]).toArray⟩ := by
  rw [empty_digest]
  decide +kernel

set_option maxHeartbeats 400000 in
theorem alive_true (w : World) (ht : Tabs w) : Calls Tryd.prog 7 #[] w fun e w' => e = .returned (.bool true) ∧ Below w.heap.size w w' := by
  have HT := Lib.hid ht
  clear ht
  go_enter Tryd.func7, Tryd.ntmps7
  go_wp2_with fail
  refine (dof_any none 0 0 [] w ⟨rfl, fun h => by omega⟩ (fun _ => rfl) HT.out (by decide)).mono ?_
  rintro e w1 ⟨rfl, hb⟩
  rw [empty_name]
  have HB := Lib.hid hb
  clear hb
  go_wp2_with fail
  go_ret
  exact ⟨rfl, HB.out⟩
end Go.Proofs.YtbklcelnnmhgkaaDoor
