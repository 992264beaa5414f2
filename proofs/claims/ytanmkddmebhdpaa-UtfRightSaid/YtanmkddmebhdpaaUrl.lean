/- The law's fixed fact; the law UtfRight. -/
import Derived.Test.YtanmkddmebhdpaaUrq
namespace Go.Proofs.Ytanmkddmebhdpaa
set_option maxRecDepth 20000
open Go.RowKit Go.Lib

theorem known_a : quoP false [97, 10, 233] = [34, 97, 92, 110, 195, 169, 34] := by decide +kernel
theorem known_b : quoP true [97, 10, 233] = [34, 97, 92, 110, 92, 117, 48, 48, 101, 57, 34] := by decide +kernel
set_option maxHeartbeats 1000000 in
theorem alive_u (w : World) : Calls Try.prog 4 #[] w fun e w' => e = .returned (.bool true) ∧ Below w.heap.size w w' := by
  have hok : ∀ c ∈ [97, 10, 233], okc c := by decide
  have hl : (⟨#[97, 10, 195, 169]⟩ : ByteArray).data.toList = flatC [97, 10, 233] ++ [] := by decide +kernel
  have HQ := Lib.hid (fun w => quote_any ⟨#[97, 10, 195, 169]⟩ [97, 10, 233] [] w hl hok (.inl rfl) (by decide))
  have HN := Lib.hid (fun w => narrow_any ⟨#[97, 10, 195, 169]⟩ [97, 10, 233] [] w hl hok (.inl rfl) (by decide))
  unfold quoR at HQ HN
  rw [if_pos rfl, known_a] at HQ
  rw [if_pos rfl, known_b] at HN
  clear hok hl
  go_enter Try.func4, Try.ntmps4
  go_wp2_with fail
  refine (HQ.out w).mono ?_
  rintro e w1 ⟨rfl, hb1⟩
  have HB1 := Lib.hid hb1
  clear hb1
  go_wp2_with fail
  refine (HN.out w1).mono ?_
  rintro e w2 ⟨rfl, hb2⟩
  have HB2 := Lib.hid (HB1.out.trans (hb2.mono HB1.out.size))
  clear hb2
  go_wp2_with fail
  go_ret
  exact ⟨rfl, HB2.out⟩
set_option maxHeartbeats 8000000 in
theorem right_any (s : ByteArray) (w : World) (hs : s.size ≤ 9223372036854775807) :
    Calls Try.prog 3 #[.string s] w fun e w' => e = .returned (.bool true) ∧ Below w.heap.size w w' := by
  have HA := Lib.hid (alive_u w)
  obtain ⟨n, hn⟩ : ∃ n, s.size = n := ⟨_, rfl⟩
  rw [hn] at hs
  by_cases hb1 : 300 < n
  · have d1 : decide (300 < n) = true := decide_eq_true hb1
    have d1i : decide ((300 : Int) < (n : Int)) = true := decide_eq_true (by omega)
    clear hb1
    go_enter Try.func3, Try.ntmps3
    go_wp2_with fail
    refine HA.out.mono ?_
    rintro e w1 ⟨rfl, hbl⟩
    have HB := Lib.hid hbl
    clear hbl
    go_wp2_with fail
    go_ret
    exact ⟨rfl, HB.out⟩
  have d1 : decide (300 < n) = false := decide_eq_false hb1
  have d1i : decide ((300 : Int) < (n : Int)) = false := decide_eq_false (by omega)
  obtain ⟨cs, r, h, hc, hr⟩ := split_any s.data.toList.length s.data.toList (Nat.le_refl _)
  have HRB := Lib.hid (fun w => refbad_any s cs r w h hc hr (by omega))
  have HUB := Lib.hid (fun w => bad_any s cs r w h hc hr (by omega))
  have HUV := Lib.hid (fun w => valid_any s cs r w h hc hr (by omega))
  have HUQ := Lib.hid (fun w => quote_any s cs r w h hc hr (by omega))
  have HUN := Lib.hid (fun w => narrow_any s cs r w h hc hr (by omega))
  have HRQ := Lib.hid (fun w => refquote_any s cs r false w h hc hr (by omega))
  have HRN := Lib.hid (fun w => refquote_any s cs r true w h hc hr (by omega))
  clear h hc hr hb1
  unfold quoR at HUQ HUN
  unfold rquoR at HRQ HRN
  unfold badP at HRB HUB
  by_cases hr0 : r = []
  · rw [if_pos hr0] at HUQ HUN HRQ HRN HRB HUB
    rw [decide_eq_true hr0] at HUV
    obtain ⟨qa, hqa⟩ : ∃ q : ByteArray, ⟨(quoP false cs).toArray⟩ = q := ⟨_, rfl⟩
    obtain ⟨qb, hqb⟩ : ∃ q : ByteArray, ⟨(quoP true cs).toArray⟩ = q := ⟨_, rfl⟩
    rw [hqa] at HUQ HRQ
    rw [hqb] at HUN HRN
    clear hqa hqb hr0
    go_enter Try.func3, Try.ntmps3
    go_wp2_with fail
    refine HA.out.mono ?_
    rintro e w1 ⟨rfl, hbl⟩
    have HB1 := Lib.hid hbl
    clear hbl HA
    go_wp2_with fail
    refine (HRB.out w1).mono ?_
    rintro e wz ⟨rfl, hwz⟩
    subst hwz
    go_wp2_with fail
    refine (HUB.out _).mono ?_
    rintro e w2 ⟨rfl, hbl⟩
    have HB2 := Lib.hid (HB1.out.trans (hbl.mono HB1.out.size))
    clear hbl
    go_wp2_with fail
    refine (HUV.out _).mono ?_
    rintro e w3 ⟨rfl, hbl⟩
    have HB3 := Lib.hid (HB2.out.trans (hbl.mono HB2.out.size))
    clear hbl
    go_wp2_with fail
    refine (HUQ.out _).mono ?_
    rintro e w4 ⟨rfl, hbl⟩
    have HB4 := Lib.hid (HB3.out.trans (hbl.mono HB3.out.size))
    clear hbl
    go_wp2_with fail
    refine (HUN.out _).mono ?_
    rintro e w5 ⟨rfl, hbl⟩
    have HB5 := Lib.hid (HB4.out.trans (hbl.mono HB4.out.size))
    clear hbl
    go_wp2_with fail
    refine (HRQ.out _).mono ?_
    rintro e w6 ⟨rfl, hbl⟩
    have HB6 := Lib.hid (HB5.out.trans (hbl.mono HB5.out.size))
    clear hbl
    go_wp2_with fail
    refine (HRN.out _).mono ?_
    rintro e w7 ⟨rfl, hbl⟩
    have HB7 := Lib.hid (HB6.out.trans (hbl.mono HB6.out.size))
    clear hbl
    go_wp2_with fail
    go_ret
    exact ⟨rfl, HB7.out⟩
  · rw [if_neg hr0] at HUQ HUN HRQ HRN HRB HUB
    rw [decide_eq_false hr0] at HUV
    obtain ⟨q, hq⟩ : ∃ q, (flatC cs).length = q := ⟨_, rfl⟩
    rw [hq] at HRB HUB
    have d2 : decide ((q : Int) < 0) = false := decide_eq_false (by omega)
    have HIS := Lib.hid (fun w => is_text w)
    clear hq hr0
    go_enter Try.func3, Try.ntmps3
    go_wp2_with fail
    refine HA.out.mono ?_
    rintro e w1 ⟨rfl, hbl⟩
    have HB1 := Lib.hid hbl
    clear hbl HA
    go_wp2_with fail
    refine (HRB.out w1).mono ?_
    rintro e wz ⟨rfl, hwz⟩
    subst hwz
    go_wp2_with fail
    refine (HUB.out _).mono ?_
    rintro e w2 ⟨rfl, hbl⟩
    have HB2 := Lib.hid (HB1.out.trans (hbl.mono HB1.out.size))
    clear hbl
    go_wp2_with fail
    refine (HUV.out _).mono ?_
    rintro e w3 ⟨rfl, hbl⟩
    have HB3 := Lib.hid (HB2.out.trans (hbl.mono HB2.out.size))
    clear hbl
    go_wp2_with fail
    refine (HUQ.out _).mono ?_
    rintro e w4 ⟨rfl, hbl⟩
    have HB4 := Lib.hid (HB3.out.trans (hbl.mono HB3.out.size))
    clear hbl
    go_wp2_with fail
    refine (HUN.out _).mono ?_
    rintro e w5 ⟨rfl, hbl⟩
    have HB5 := Lib.hid (HB4.out.trans (hbl.mono HB4.out.size))
    clear hbl
    go_wp2_with fail
    refine (HRQ.out _).mono ?_
    rintro e w6 ⟨rfl, hbl⟩
    have HB6 := Lib.hid (HB5.out.trans (hbl.mono HB5.out.size))
    clear hbl
    go_wp2_with fail
    refine (HRN.out _).mono ?_
    rintro e w7 ⟨rfl, hbl⟩
    have HB7 := Lib.hid (HB6.out.trans (hbl.mono HB6.out.size))
    clear hbl
    go_wp2_with fail
    refine (HIS.out _).mono ?_
    rintro e wz ⟨rfl, hwz⟩
    subst hwz
    go_wp2_with fail
    refine (HIS.out _).mono ?_
    rintro e wz ⟨rfl, hwz⟩
    subst hwz
    go_wp2_with fail
    go_ret
    exact ⟨rfl, HB7.out⟩
end Go.Proofs.Ytanmkddmebhdpaa
