/- Contract of the law ShaNone. -/
import Derived.Test.YtggdfegebgnkbaaDoorOf
import Derived.Stop.BytesEq
namespace Go.Proofs.YtggdfegebgnkbaaDoor
open Go.RowKit

theorem size5 (w : World) : (sizeOf 5).run Tryd.prog w = .ok 1 w := by
  obtain ⟨i0, hi, _, hz1, _⟩ := info_parts info5
  simp [sizeOf, typeInfo, hi, hz1]
theorem eq25 (L M : List UInt8) (hL : L.length = 32) (hM : M.length = 32) (w : World) : (Op.equalIn 10000 25 (.agg (u8s L)) (.agg (u8s M))).run Tryd.prog w = .ok (L == M) w :=
  run_equalIn_bytes w 9998 25 5 32 Tryd.underlying25 Tryd.underlying5 size5 L M hL hM
theorem same25 (L : List UInt8) (hL : L.length = 32) (w : World) : (Op.equalIn 10000 25 (.agg (u8s L)) (.agg (u8s L))).run Tryd.prog w = .ok true w := by
  rw [eq25 L L hL hL]; simp
theorem ofP_length (l : List UInt8) : (ofP l).length = 32 := rfl
theorem sumP_length (h : HS) : (sumP h).length = 32 := rfl

theorem RdP.lit (w : World) (cs : Array Value) (vs : List Value) (ls : List (List UInt8)) (n : Nat) (hv : cs.toList = vs) (h1 : vs.length = n) (h2 : ls.length = n)
    (hr : ∀ (j : Nat) (u : Value) (l : List UInt8), vs[j]? = some u → ls[j]? = some l → ∃ (A' : Option Addr) (n' c' : Nat), u = Value.slice A' n' c' ∧ (A' = none → c' = 0) ∧ Rd w w.heap.size A' n' (us l)) :
    RdP (w.alloc (.cells cs 22)) (some ⟨w.heap.size, 0, none⟩) n vs ls := by
  have hb : Below w.heap.size w (w.alloc (.cells cs 22)) := (Below.refl _ _).alloc (Nat.le_refl _) _
  refine ⟨h1, h2, fun _ => ⟨w.heap.size, 0, rfl, by simp, fun j u hu => ?_⟩, fun j u l hu hl => ?_⟩
  · have := cells_new w cs 22 j u (by rw [hv]; exact hu)
    rw [Go.WideShapes.add_plain] at this
    exact this
  · obtain ⟨A', n', c', rfl, hc, hrd⟩ := hr j u l hu hl
    exact ⟨A', n', c', rfl, hc, hrd.next hb⟩

set_option maxHeartbeats 400000 in
theorem none_any (v : Value) (w : World) (ht : Tabs w) : Calls Tryd.prog 6 #[v] w fun e w' => e = .returned (.bool true) ∧ Below w.heap.size w w' := by
  obtain ⟨L, hL⟩ : ∃ L, ofP [] = L := ⟨_, rfl⟩
  have hsame := same25 L (by rw [← hL]; rfl)
  have HL := Lib.hid hL
  clear hL
  have HT := Lib.hid ht
  clear ht
  go_enter Tryd.func6, Tryd.ntmps6
  go_wp2_with fail
  refine (alive_true w HT.out).mono ?_
  rintro e w1 ⟨rfl, hb1⟩
  have HB1 := Lib.hid hb1
  clear hb1
  go_wp2_with fail
  refine (write_nil v w1).mono ?_
  rintro e w1' ⟨rfl, rfl⟩
  go_wp2_with fail
  refine (len_nil w1').mono ?_
  rintro e w1 ⟨rfl, rfl⟩
  go_wp2_with fail
  have ht1 := HT.out.below HB1.out HT.out.size
  refine (sum_nil w1 ht1).mono ?_
  rintro e w2 ⟨rfl, hb2⟩
  rw [HL.out]
  have HB2 := Lib.hid (HB1.out.trans (hb2.mono HB1.out.size))
  clear hb2 ht1 HB1
  go_wp2_with fail
  refine (of_none w2 (HT.out.below HB2.out HT.out.size)).mono ?_
  rintro e w3 ⟨rfl, hb3⟩
  rw [HL.out]
  have HB3 := Lib.hid (HB2.out.trans (hb3.mono HB2.out.size))
  clear hb3 HB2
  go_wp2_with fail
  have hrp := RdP.lit w3 #[.slice none 0 0, .slice none 0 0] [.slice none 0 0, .slice none 0 0] [[], []] 2 rfl rfl rfl (fun j u l hu hl => by
    match j, hu, hl with
    | 0, hu, hl => injection hu with hu; injection hl with hl; subst hu hl; exact ⟨none, 0, 0, rfl, fun _ => rfl, rfl, fun h => by omega⟩
    | 1, hu, hl => injection hu with hu; injection hl with hl; subst hu hl; exact ⟨none, 0, 0, rfl, fun _ => rfl, rfl, fun h => by omega⟩)
  have hb4 : Below w.heap.size w (w3.alloc (.cells #[.slice none 0 0, .slice none 0 0] 22)) := HB3.out.alloc HB3.out.size _
  generalize w3.alloc (.cells #[.slice none 0 0, .slice none 0 0] 22) = w4 at hrp hb4 ⊢
  refine (of_any _ 2 2 _ _ w4 hrp (HT.out.below hb4 HT.out.size) (by decide) (by decide)).mono ?_
  rintro e w5 ⟨rfl, hb5⟩
  rw [show ofP ([[], []] : List (List UInt8)).flatten = L from HL.out]
  have HB5 := Lib.hid (hb4.trans (hb5.mono hb4.size))
  clear hb5 hb4 hrp HB3
  go_wp2_with fail
  refine (of_none w5 (HT.out.below HB5.out HT.out.size)).mono ?_
  rintro e w6 ⟨rfl, hb6⟩
  rw [HL.out]
  have HB6 := Lib.hid (HB5.out.trans (hb6.mono HB5.out.size))
  clear hb6 HB5
  go_wp2_with fail
  go_ret
  exact ⟨rfl, HB6.out⟩
end Go.Proofs.YtggdfegebgnkbaaDoor
