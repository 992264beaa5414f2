/- Contracts of digest.Parse, Is, Short, Long. -/
import Derived.Test.YtbklcelnnmhgkaaDoorPrs
namespace Go.Proofs.YtbklcelnnmhgkaaDoor
open Go.RowKit

theorem cut_data {s : ByteArray} (h : hasF s = true) : (cutB s).data.toList = s.data.toList.drop 7 := by
  have e : cutB s = s.extract 7 s.size := by unfold cutB; rw [h]; rfl
  rw [e]
  have := Lib.extract_toList s 7 s.size
  have h2 : (s.extract 7 s.size).data.toList = (s.extract 7 s.size).toList := by rw [this]; simp
  rw [h2, this, List.take_of_length_le (by simp)]
theorem cut_size (s : ByteArray) : (cutB s).size ≤ s.size := by
  unfold cutB
  split
  · simp
  · exact Nat.le_refl _

set_option maxHeartbeats 400000 in
theorem parse_any (s : ByteArray) (w : World) (hs : s.size ≤ 8000) : Calls Tryd.prog 13 #[.string s] w (Told w (parseF s.data.toList)) := by
  have HS := Lib.hid (Nat.le_trans (cut_size s) hs)
  clear hs
  go_enter Tryd.func13, Tryd.ntmps13
  go_upto_region 0 with fail
  go_step
  refine alloc_row rfl 24 rfl _ 32 info25 ?_
  intro w1 r1 g1 s1
  have R1 := Lib.hid r1
  have HB := Lib.hid (below_make g1)
  clear r1 g1 s1
  go_wp2_with fail
  refine (cut_any s w1).mono ?_
  rintro e w2 ⟨rfl, rfl⟩
  cases hh : hasF s with
  | false =>
    have hz : parseF s.data.toList = none := by unfold parseF; rw [if_neg (of_decide_eq_false hh)]
    have HZ := Lib.hid hz
    have kb := build24
    clear hh hz
    go_wp2_with (with_reducible refine halt_store 24 ?_)
    refine Lib.hid ?_
    refine store_row rfl 24 _ _ rfl w.heap.size (u8s zero32) ?x1 ?x2 24 _ R1.out 32 size25 rfl ?x3 (u8s_one _) ?x4
    case x1 => rfl
    case x2 => rfl
    case x3 => exact u8s_size _
    case x4 =>
      intro w9 r9 g9 s9
      have HB9 := Lib.hid (HB.out.grown g9 HB.out.size (fun k h => by injection h with h; omega))
      have R9 := Lib.hid r9
      clear r9 g9 s9
      go_wp2_with fail
      refine bodyPost_ret (v := .tuple #[.agg (u8s zero32), .iface 37 (.int .i64 2)]) ?_ rfl (Told.mk_none HZ.out HB9.out)
      exact results_two rfl _ _ w.heap.size 24 (u8s zero32) _ _ rfl rfl R9.out Tryd.underlying24 rfl size25
  | true =>
    have hz : parseF s.data.toList = sumF (cutB s).data.toList := by unfold parseF; rw [if_pos (of_decide_eq_true hh), cut_data hh]
    have HP := Lib.hid hz
    clear hh hz
    go_wp2_with fail
    refine (sumof_any (cutB s) w1 HS.out).mono ?_
    intro e w3 hg
    cases hu : sumF (cutB s).data.toList with
    | none =>
      rw [hu] at hg
      obtain ⟨rfl, hb⟩ := hg
      have HZ := Lib.hid (HP.out.trans hu)
      have HB3 := Lib.hid hb
      have HV : RowKit.Hid ((u8s zero32).size = 32) := Lib.hid rfl
      clear hb hu
      go_wp2_with (with_reducible refine halt_store 24 ?_)
      refine Lib.hid ?_
      have hr3 := R1.out.below HB3.out R1.out.lt
      have hb3 : Below w.heap.size w w3 := HB.out.trans (HB3.out.mono HB.out.size)
      refine store_row rfl 24 _ _ rfl w.heap.size (u8s zero32) ?x1 ?x2 24 _ hr3 32 size25 HV.out ?x3 (u8s_one _) ?x4
      case x1 => rfl
      case x2 => rfl
      case x3 => exact u8s_size _
      case x4 =>
        intro w9 r9 g9 s9
        have HB9 := Lib.hid (hb3.grown g9 hb3.size (fun k h => by injection h with h; omega))
        have R9 := Lib.hid r9
        clear r9 g9 s9 hr3 hb3
        go_wp2_with fail
        refine bodyPost_ret (v := .tuple #[.agg (u8s zero32), .iface 37 (.int .i64 2)]) ?_ rfl (Told.mk_none HZ.out HB9.out)
        exact results_two rfl _ _ w.heap.size 24 (u8s zero32) _ _ rfl rfl R9.out Tryd.underlying24 rfl (by rw [size25, HV.out])
    | some L =>
      have HV : RowKit.Hid ((u8s L).size = 32) := Lib.hid (by rw [u8s_size, (sum_len hu).1])
      rw [hu] at hg
      obtain ⟨rfl, hb⟩ := hg
      have HZ := Lib.hid (HP.out.trans hu)
      have HB3 := Lib.hid hb
      clear hb hu
      go_wp2_with (with_reducible refine halt_store 24 ?_)
      refine Lib.hid ?_
      have hr3 := R1.out.below HB3.out R1.out.lt
      have hb3 : Below w.heap.size w w3 := HB.out.trans (HB3.out.mono HB.out.size)
      refine store_row rfl 24 _ _ rfl w.heap.size (u8s L) ?x1 ?x2 24 _ hr3 32 size25 HV.out ?x3 (u8s_one _) ?x4
      case x1 => rfl
      case x2 => rfl
      case x3 => exact u8s_size _
      case x4 =>
        intro w9 r9 g9 s9
        have HB9 := Lib.hid (hb3.grown g9 hb3.size (fun k h => by injection h with h; omega))
        have R9 := Lib.hid r9
        clear r9 g9 s9 hr3 hb3
        go_wp2_with fail
        refine bodyPost_ret (v := .tuple #[.agg (u8s L), .nilIface]) ?_ rfl (Told.mk_some HZ.out HB9.out)
        exact results_two rfl _ _ w.heap.size 24 (u8s L) _ _ rfl rfl R9.out Tryd.underlying24 rfl (by rw [size25, HV.out])

set_option maxHeartbeats 400000 in
theorem dis_any (s : ByteArray) (w : World) (hs : s.size ≤ 8000) : Calls Tryd.prog 16 #[.string s] w fun e w' => e = .returned (.bool (parseF s.data.toList).isSome) ∧ Below w.heap.size w w' := by
  have HS := Lib.hid hs
  clear hs
  obtain ⟨R, HR⟩ : ∃ R, RowKit.Hid ((parseF s.data.toList).isSome = R) := ⟨_, Lib.hid rfl⟩
  rw [HR.out]
  go_enter Tryd.func16, Tryd.ntmps16
  go_wp2_with fail
  refine (parse_any s w HS.out).mono ?_
  intro e w2 hg
  cases hu : parseF s.data.toList with
  | none =>
    rw [hu] at hg
    obtain ⟨rfl, hb⟩ := hg
    have HZ : RowKit.Hid (R = false) := Lib.hid (by rw [← HR.out, hu]; rfl)
    have HB := Lib.hid hb
    have HV : RowKit.Hid ((u8s zero32).size = 32) := Lib.hid rfl
    clear hb hu
    go_wp2_with (first
      | (with_reducible refine halt_alloc 24 ?_))
    refine Lib.hid ?_
    refine alloc_row rfl 24 rfl _ 32 info25 ?_
    intro w3 r3 g3 s3
    refine store_row rfl 24 _ _ rfl w2.heap.size (u8s zero32) rfl rfl 24 _ r3 32 size25 HV.out (u8s_size _) (u8s_one _) ?_
    intro w4 r4 g4 s4
    have R4 := Lib.hid r4
    have HB4 := Lib.hid ((HB.out.grown g3 HB.out.size (fun _ h => by cases h)).grown g4 (by have := HB.out.size; omega) (fun k h => by injection h with h; have := HB.out.size; omega))
    clear r3 g3 s3 r4 g4 s4
    go_wp2_with fail
    go_ret
    exact ⟨by rw [HZ.out]; rfl, HB4.out⟩
  | some L =>
    have HV : RowKit.Hid ((u8s L).size = 32) := Lib.hid (by rw [u8s_size, (parse_name hu).1])
    rw [hu] at hg
    obtain ⟨rfl, hb⟩ := hg
    have HZ : RowKit.Hid (R = true) := Lib.hid (by rw [← HR.out, hu]; rfl)
    have HB := Lib.hid hb
    clear hb hu
    go_wp2_with (first
      | (with_reducible refine halt_alloc 24 ?_))
    refine Lib.hid ?_
    refine alloc_row rfl 24 rfl _ 32 info25 ?_
    intro w3 r3 g3 s3
    refine store_row rfl 24 _ _ rfl w2.heap.size (u8s L) rfl rfl 24 _ r3 32 size25 HV.out (u8s_size _) (u8s_one _) ?_
    intro w4 r4 g4 s4
    have R4 := Lib.hid r4
    have HB4 := Lib.hid ((HB.out.grown g3 HB.out.size (fun _ h => by cases h)).grown g4 (by have := HB.out.size; omega) (fun k h => by injection h with h; have := HB.out.size; omega))
    clear r3 g3 s3 r4 g4 s4
    go_wp2_with fail
    go_ret
    exact ⟨by rw [HZ.out]; rfl, HB4.out⟩

/-- What Short and Long answer: a text and no error, or none and ErrForm. -/
def Said2 (w : World) (r : Option (List UInt8)) (e : Ending) (w' : World) : Prop :=
  match r with
  | some t => e = .returned (.tuple #[.string ⟨t.toArray⟩, .nilIface]) ∧ Below w.heap.size w w'
  | none => e = .returned (.tuple #[.string ⟨#[]⟩, .iface 37 (.int .i64 2)]) ∧ Below w.heap.size w w'
theorem Said2.mk_none {w w' : World} {r : Option (List UInt8)} (h : r = none) (hb : Below w.heap.size w w') : Said2 w r (.returned (.tuple #[.string ⟨#[]⟩, .iface 37 (.int .i64 2)])) w' := by
  rw [h]; exact ⟨rfl, hb⟩
theorem Said2.mk_some {w w' : World} {r : Option (List UInt8)} {t : List UInt8} (h : r = some t) (hb : Below w.heap.size w w') : Said2 w r (.returned (.tuple #[.string ⟨t.toArray⟩, .nilIface])) w' := by
  rw [h]; exact ⟨rfl, hb⟩

set_option maxHeartbeats 400000 in
theorem short_any (s : ByteArray) (w : World) (hs : s.size ≤ 8000) : Calls Tryd.prog 14 #[.string s] w (Said2 w ((parseF s.data.toList).map hexL)) := by
  have HS := Lib.hid hs
  clear hs
  go_enter Tryd.func14, Tryd.ntmps14
  go_wp2_with fail
  refine (parse_any s w HS.out).mono ?_
  intro e w2 hg
  cases hu : parseF s.data.toList with
  | none =>
    rw [hu] at hg
    obtain ⟨rfl, hb⟩ := hg
    have HZ : RowKit.Hid ((parseF s.data.toList).map hexL = none) := Lib.hid (by rw [hu]; rfl)
    have HB := Lib.hid hb
    have HV : RowKit.Hid ((u8s zero32).size = 32) := Lib.hid rfl
    clear hb hu
    go_wp2_with (first
      | (with_reducible refine halt_alloc 24 ?_))
    refine Lib.hid ?_
    refine alloc_row rfl 24 rfl _ 32 info25 ?_
    intro w3 r3 g3 s3
    refine store_row rfl 24 _ _ rfl w2.heap.size (u8s zero32) rfl rfl 24 _ r3 32 size25 HV.out (u8s_size _) (u8s_one _) ?_
    intro w4 r4 g4 s4
    have R4 := Lib.hid r4
    have HB4 := Lib.hid ((HB.out.grown g3 HB.out.size (fun _ h => by cases h)).grown g4 (by have := HB.out.size; omega) (fun k h => by injection h with h; have := HB.out.size; omega))
    clear r3 g3 s3 r4 g4 s4
    go_wp2_with fail
    go_ret2
    exact Said2.mk_none HZ.out HB4.out
  | some L =>
    have HLL := Lib.hid (parse_name hu).1
    have HV : RowKit.Hid ((u8s L).size = 32) := Lib.hid (by rw [u8s_size, (parse_name hu).1])
    rw [hu] at hg
    obtain ⟨rfl, hb⟩ := hg
    have HZ : RowKit.Hid ((parseF s.data.toList).map hexL = some (hexL L)) := Lib.hid (by rw [hu]; rfl)
    have HB := Lib.hid hb
    clear hb hu
    go_wp2_with (first
      | (with_reducible refine halt_alloc 24 ?_))
    refine Lib.hid ?_
    refine alloc_row rfl 24 rfl _ 32 info25 ?_
    intro w3 r3 g3 s3
    refine store_row rfl 24 _ _ rfl w2.heap.size (u8s L) rfl rfl 24 _ r3 32 size25 HV.out (u8s_size _) (u8s_one _) ?_
    intro w4 r4 g4 s4
    have R4 := Lib.hid r4
    have HB4 := Lib.hid ((HB.out.grown g3 HB.out.size (fun _ h => by cases h)).grown g4 (by have := HB.out.size; omega) (fun k h => by injection h with h; have := HB.out.size; omega))
    clear r3 g3 s3 r4 g4 s4
    have HR4 := Lib.hid (R4.out.rd HLL.out)
    go_wp2_with fail
    refine (hex_any _ 32 32 L w4 HR4.out (by decide)).mono ?_
    rintro e w5 ⟨rfl, hb5⟩
    have HB5 := Lib.hid (HB4.out.trans (hb5.mono HB4.out.size))
    clear hb5 HB4 HR4
    go_wp2_with fail
    go_ret2
    exact Said2.mk_some HZ.out HB5.out

set_option maxHeartbeats 400000 in
theorem long_any (s : ByteArray) (w : World) (hs : s.size ≤ 8000) : Calls Tryd.prog 15 #[.string s] w (Said2 w ((sumF s.data.toList).map fun L => preL ++ hexL L)) := by
  have HS := Lib.hid hs
  clear hs
  go_enter Tryd.func15, Tryd.ntmps15
  go_wp2_with fail
  refine (sumof_any s w HS.out).mono ?_
  intro e w2 hg
  cases hu : sumF s.data.toList with
  | none =>
    rw [hu] at hg
    obtain ⟨rfl, hb⟩ := hg
    have HZ : RowKit.Hid (((sumF s.data.toList).map fun L => preL ++ hexL L) = none) := Lib.hid (by rw [hu]; rfl)
    have HB := Lib.hid hb
    have HV : RowKit.Hid ((u8s zero32).size = 32) := Lib.hid rfl
    clear hb hu
    go_wp2_with (first
      | (with_reducible refine halt_alloc 24 ?_))
    refine Lib.hid ?_
    refine alloc_row rfl 24 rfl _ 32 info25 ?_
    intro w3 r3 g3 s3
    refine store_row rfl 24 _ _ rfl w2.heap.size (u8s zero32) rfl rfl 24 _ r3 32 size25 HV.out (u8s_size _) (u8s_one _) ?_
    intro w4 r4 g4 s4
    have R4 := Lib.hid r4
    have HB4 := Lib.hid ((HB.out.grown g3 HB.out.size (fun _ h => by cases h)).grown g4 (by have := HB.out.size; omega) (fun k h => by injection h with h; have := HB.out.size; omega))
    clear r3 g3 s3 r4 g4 s4
    go_wp2_with fail
    go_ret2
    exact Said2.mk_none HZ.out HB4.out
  | some L =>
    have HLL := Lib.hid (sum_len hu).1
    have HV : RowKit.Hid ((u8s L).size = 32) := Lib.hid (by rw [u8s_size, (sum_len hu).1])
    rw [hu] at hg
    obtain ⟨rfl, hb⟩ := hg
    have HZ : RowKit.Hid (((sumF s.data.toList).map fun L => preL ++ hexL L) = some (preL ++ hexL L)) := Lib.hid (by rw [hu]; rfl)
    have HB := Lib.hid hb
    clear hb hu
    go_wp2_with (first
      | (with_reducible refine halt_alloc 24 ?_))
    refine Lib.hid ?_
    refine alloc_row rfl 24 rfl _ 32 info25 ?_
    intro w3 r3 g3 s3
    refine store_row rfl 24 _ _ rfl w2.heap.size (u8s L) rfl rfl 24 _ r3 32 size25 HV.out (u8s_size _) (u8s_one _) ?_
    intro w4 r4 g4 s4
    have R4 := Lib.hid r4
    have HB4 := Lib.hid ((HB.out.grown g3 HB.out.size (fun _ h => by cases h)).grown g4 (by have := HB.out.size; omega) (fun k h => by injection h with h; have := HB.out.size; omega))
    clear r3 g3 s3 r4 g4 s4
    go_wp2_with (with_reducible refine halt_load 24 ?_)
    refine Lib.hid ?_
    refine load_row rfl 24 _ rfl w2.heap.size rfl 24 (u8s L) _ R4.out Tryd.underlying24 rfl 32 size25 HV.out ?_
    intro _
    go_wp2_with fail
    refine (name_any L HLL.out w4).mono ?_
    rintro e w5 ⟨rfl, hb5⟩
    have HB5 := Lib.hid (HB4.out.trans (hb5.mono HB4.out.size))
    clear hb5 HB4
    go_wp2_with fail
    go_ret2
    exact Said2.mk_some HZ.out HB5.out
end Go.Proofs.YtbklcelnnmhgkaaDoor
