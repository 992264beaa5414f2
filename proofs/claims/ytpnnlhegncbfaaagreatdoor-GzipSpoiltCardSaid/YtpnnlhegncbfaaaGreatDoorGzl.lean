/- The law GzipBack. -/
import Derived.Test.YtpnnlhegncbfaaaGreatDoorGzb
import Derived.Laws.Concat
namespace Go.Proofs.YtpnnlhegncbfaaaGreatDoor
set_option maxRecDepth 20000
open Go.RowKit

theorem packT_le (l : List UInt8) (z : Int) (hl : l.length ≤ 30000) : (packT l z).length ≤ 310000 := by
  have h2 : (plainT l).length = l.length + 5 := by simp [plainT]
  have h3 : (tokT l).length ≤ 310000 := by
    have g1 := flat_length (toksT l)
    have g2 : (tokT l).length = ((fixedM l).length + 7) / 8 := textB_length _
    have g3 := toks_len l l.length 0
    have g4 : (bitsO fixA (256 : Nat)).length ≤ 15 := by rw [bitsO_length]; exact lenI_bound fix_low.1 _
    have g5 : (fixedM l).length = 3 + ((toksT l).flatMap tokB).length + (bitsO fixA (256 : Nat)).length := by
      unfold fixedM
      simp only [List.length_append, List.length_cons, List.length_nil]
    unfold toksT at g1 g5
    omega
  unfold packT
  split
  · omega
  · split
    · omega
    · split <;> omega
/-- Unpack of two texts that were packed. -/
theorem unpack_two (A : Option Addr) (n c : Nat) (a b : List UInt8) (z0 z1 : Int) (lim : Nat) (w : World) (hr : Rd w w.heap.size A n (us (gzP a z0 ++ gzP b z1))) (hA : A = none → c = 0) (hnc : n ≤ c) (hform : A = none ∨ ∃ q o, A = some ⟨q, o, none⟩)
    (ha : a.length ≤ 2000) (hb : b.length ≤ 2000) (hlim : lim ≤ 1048576) (ht : Tab w) (hts : Tabs w) (h0 : 2 < w.heap.size) :
    Calls Tryz.prog 7 #[.slice A n c, .int .i64 (lim : Int)] w (UpM w (BackR lim (a ++ b))) := by
  have hn : n ≤ 1000000 := by
    have h1 := hr.1
    rw [us_length, List.length_append, gz_len, gz_len] at h1
    have h2 := packT_le a z0 (by omega)
    have h3 := packT_le b z1 (by omega)
    omega
  refine unpackz A n c lim _ w (gread_any A n c _ lim _ w hr hA hnc hform hn hlim ht hts h0 ?_)
  intro g wx hf
  have h := members_back [(b, z1)] a z0 g A n c (gzP a z0 ++ gzP b z1) lim (.slice none 0 0) wx hf (by simp [packsB]) (by omega) (by intro m hm; simp at hm; subst hm; show b.length ≤ 30000; omega)
  rw [show a ++ textsB [(b, z1)] = a ++ b by simp [textsB]] at h
  exact h
theorem str_cat (a b : List UInt8) : (⟨a.toArray⟩ ++ ⟨b.toArray⟩ : ByteArray) = ⟨(a ++ b).toArray⟩ := by
  apply ByteArray.ext
  simp
theorem mode_ok (x : Int) : 0 ≤ wrap64 ((IntKind.u64.wrap x).tmod 3) ∧ wrap64 ((IntKind.u64.wrap x).tmod 3) ≤ 2 := by
  obtain ⟨q, hq, h0⟩ : ∃ q, IntKind.u64.wrap x = q ∧ 0 ≤ q := ⟨_, rfl, by unfold IntKind.wrap; simp [IntKind.signed, IntKind.bits]; omega⟩
  rw [hq, Int.tmod_eq_emod_of_nonneg h0]
  unfold wrap64
  omega
set_option maxHeartbeats 4000000 in
theorem gback_any (A0 A1 : Option Addr) (n0 c0 n1 c1 : Nat) (a b : List UInt8) (x y : Int) (w : World) (hr0 : Rd w w.heap.size A0 n0 (us a)) (hr1 : Rd w w.heap.size A1 n1 (us b)) (hA0 : A0 = none → c0 = 0) (hA1 : A1 = none → c1 = 0) (hc0 : n0 ≤ c0) (hc1 : n1 ≤ c1)
    (ht : Tab w) (hts : Tabs w) (h0 : 2 < w.heap.size) :
    Calls Tryz.prog 4 #[.slice A0 n0 c0, .slice A1 n1 c1, .agg #[.int .i64 x, .int .i64 y]] w fun e w' => e = .returned (.bool true) ∧ Below w.heap.size w w' := by
  have hga := World.grownBy_alloc w (.cells #[.int .i64 x, .int .i64 y] 36) none
  have HB0 := Lib.hid (below_make hga)
  have HR := Lib.hid (And.intro (hr0.next HB0.out) (hr1.next HB0.out))
  have HA := Lib.hid (And.intro (And.intro hA0 hc0) (And.intro hA1 hc1))
  have HT : RowKit.Hid (Tab (w.alloc (.cells #[.int .i64 x, .int .i64 y] 36)) ∧ Tabs (w.alloc (.cells #[.int .i64 x, .int .i64 y] 36)) ∧ 2 < w.heap.size) := Lib.hid ⟨ht.block (HB0.out.block 2 h0), hts.below HB0.out (by omega), h0⟩
  have HW : RowKit.Hid (Row (w.alloc (.cells #[.int .i64 x, .int .i64 y] 36)) w.heap.size #[.int .i64 x, .int .i64 y] 36) := Lib.hid (Row.new w _ _)
  have HS : RowKit.Hid (w.heap.size < (w.alloc (.cells #[.int .i64 x, .int .i64 y] 36)).heap.size) := Lib.hid (by simp)
  have HLN : RowKit.Hid (a.length = n0 ∧ b.length = n1) := Lib.hid ⟨by have := hr0.1; rwa [us_length] at this, by have := hr1.1; rwa [us_length] at this⟩
  have HAL := Lib.hid (alive_gz _ HT.out.2.1)
  clear hga hr0 hr1 hA0 hA1 hc0 hc1 ht hts h0
  go_enter Tryz.func4, Tryz.ntmps4
  go_wp2_with fail
  generalize w.alloc (.cells #[.int .i64 x, .int .i64 y] 36) = w1 at HB0 HR HT HW HS HAL ⊢
  generalize hrb : w.heap.size = rb at HB0 HT HW HS ⊢
  have HRB := Lib.hid hrb
  clear hrb
  refine HAL.out.mono ?_
  rintro e w2 ⟨rfl, hb2⟩
  have HB2 := Lib.hid (HB0.out.trans (hb2.mono (Nat.le_of_lt HS.out)))
  have HR2 := Lib.hid (And.intro (HR.out.1.next hb2) (HR.out.2.next hb2))
  have HW2 : RowKit.Hid (Row w2 rb #[.int .i64 x, .int .i64 y] 36) := Lib.hid (by unfold Row; rw [hb2.block rb HS.out]; exact HW.out)
  have HT2 : RowKit.Hid (Tab w2 ∧ Tabs w2 ∧ 2 < rb ∧ rb < w2.heap.size) := Lib.hid ⟨HT.out.1.block (hb2.block 2 (by have := HT.out.2.2; have := HS.out; omega)), HT.out.2.1.below hb2 (by have := HS.out; omega), HT.out.2.2, Nat.lt_of_lt_of_le HS.out hb2.size⟩
  clear hb2 HAL HB0 HR HW HT HS
  by_cases hn0 : 2000 < n0
  · have d0 : decide (2000 < (n0 : Int)) = true := decide_eq_true (by omega)
    go_wp2_with fail
    go_ret
    exact ⟨rfl, by rw [HRB.out]; exact HB2.out⟩
  by_cases hn1 : 2000 < n1
  · have d0 : decide (2000 < (n0 : Int)) = false := decide_eq_false (by omega)
    have d1 : decide (2000 < (n1 : Int)) = true := decide_eq_true (by omega)
    go_wp2_with fail
    go_ret
    exact ⟨rfl, by rw [HRB.out]; exact HB2.out⟩
  have d0 : decide (2000 < (n0 : Int)) = false := decide_eq_false (by omega)
  have d1 : decide (2000 < (n1 : Int)) = false := decide_eq_false (by omega)
  have x0 : w2.cell? ⟨rb, 0, none⟩ = some (.int .i64 x) := HW2.out.cell 0
  have x1 : w2.cell? ⟨rb, 1, none⟩ = some (.int .i64 y) := HW2.out.cell 1
  go_wp2_with fail
  have HZ0 := Lib.hid (mode_ok x)
  have HZ1 := Lib.hid (mode_ok y)
  generalize wrap64 ((IntKind.u64.wrap x).tmod 3) = z0 at HZ0 ⊢
  obtain ⟨X, hX⟩ : ∃ X, gzP a z0 = X := ⟨_, rfl⟩
  have HP := Lib.hid (gpack_any A0 n0 c0 a z0 w2 HR2.out.1 HA.out.1.1 (by omega) HA.out.1.2 HZ0.out HT2.out.2.1)
  rw [hX] at HP
  have HX := Lib.hid hX
  obtain ⟨xl, hxl⟩ : ∃ xl, X.length = xl := ⟨_, rfl⟩
  have HXL : RowKit.Hid (X.length = xl ∧ xl ≤ 320000) := Lib.hid ⟨hxl, by rw [← hxl, ← hX, gz_len]; have := packT_le a z0 (by have := HLN.out.1; omega); omega⟩
  clear hX
  refine HP.out.mono ?_
  rintro e w3 ⟨v3, rfl, ho3, hb3⟩
  obtain ⟨B3, k3, hv3⟩ := ho3.slice
  rw [hxl] at hv3
  subst hv3
  have HO3 := Lib.hid (And.intro ho3.rd.2 (noCap' ho3))
  have HB3 := Lib.hid (HB2.out.trans (hb3.mono (Nat.le_of_lt HT2.out.2.2.2)))
  have HR3 := Lib.hid (And.intro (HR2.out.1.next hb3) (HR2.out.2.next hb3))
  have HT3 : RowKit.Hid (Tab w3 ∧ Tabs w3 ∧ 2 < w3.heap.size ∧ w2.heap.size ≤ w3.heap.size) := Lib.hid ⟨HT2.out.1.block (hb3.block 2 (by have := HT2.out.2.2; omega)), HT2.out.2.1.below hb3 (by have := HT2.out.2.2; omega), by have := HT2.out.2.2; have := hb3.size; omega, hb3.size⟩
  have x1 : w3.cell? ⟨rb, 1, none⟩ = some (.int .i64 y) := (show Row w3 rb #[.int .i64 x, .int .i64 y] 36 by unfold Row; rw [hb3.block rb HT2.out.2.2.2]; exact HW2.out).cell 1
  clear hxl ho3 hb3 HP HR2
  go_wp2_with fail
  generalize wrap64 ((IntKind.u64.wrap y).tmod 3) = z1 at HZ1 ⊢
  obtain ⟨Y, hY⟩ : ∃ Y, gzP b z1 = Y := ⟨_, rfl⟩
  have HP := Lib.hid (gpack_any A1 n1 c1 b z1 w3 HR3.out.2 HA.out.2.1 (by omega) HA.out.2.2 HZ1.out HT3.out.2.1)
  rw [hY] at HP
  have HY := Lib.hid hY
  obtain ⟨yl, hyl⟩ : ∃ yl, Y.length = yl := ⟨_, rfl⟩
  have HYL : RowKit.Hid (Y.length = yl ∧ yl ≤ 320000) := Lib.hid ⟨hyl, by rw [← hyl, ← hY, gz_len]; have := packT_le b z1 (by have := HLN.out.2; omega); omega⟩
  clear hY
  refine HP.out.mono ?_
  rintro e w4 ⟨v4, rfl, ho4, hb4⟩
  obtain ⟨B4, k4, hv4⟩ := ho4.slice
  rw [hyl] at hv4
  subst hv4
  have HO4 : RowKit.Hid (Rd w4 w4.heap.size B3 xl (us X) ∧ (B3 = none → k3 = 0) ∧ Rd w4 w4.heap.size B4 yl (us Y) ∧ (B4 = none → k4 = 0)) := Lib.hid ⟨HO3.out.1.next hb4, HO3.out.2, ho4.rd.2, noCap' ho4⟩
  have HR4 := Lib.hid (And.intro (HR3.out.1.next hb4) (HR3.out.2.next hb4))
  have HT4 : RowKit.Hid (Tab w4 ∧ Tabs w4 ∧ 2 < w4.heap.size) := Lib.hid ⟨HT3.out.1.block (hb4.block 2 (by have := HT3.out.2.2; omega)), HT3.out.2.1.below hb4 (by have := HT3.out.2.2; omega), by have := HT3.out.2.2; have := hb4.size; omega⟩
  have HB4 : RowKit.Hid (Below rb w w4 ∧ rb < w4.heap.size) := Lib.hid ⟨HB3.out.trans (hb4.mono (by have := HT2.out.2.2; have := HT3.out.2.2; omega)), by have := HT2.out.2.2; have := HT3.out.2.2; have := hb4.size; omega⟩
  clear hyl ho4 hb4 HP HR3 HO3 HB3 HT3 HT2 HB2 HW2 x0 x1
  have HG0 : RowKit.Hid (GO w4 (w4.alloc (.cells #[] 5)) (.slice (some ⟨w4.heap.size, 0, none⟩) 0 0) []) := Lib.hid ⟨Own.lit w4 #[] [] 0 rfl rfl (by decide), below_make (World.grownBy_alloc w4 _ none)⟩
  have HTB : RowKit.Hid (∀ wx vx L, GO w4 wx vx L → Rd wx w4.heap.size B3 xl (us X) ∧ Rd wx w4.heap.size B4 yl (us Y)) := Lib.hid (fun wx vx L h => ⟨HO4.out.1.below h.below, HO4.out.2.2.1.below h.below⟩)
  have HTB0 := Lib.hid (HTB.out _ _ _ HG0.out)
  go_wp2_with (at_builtin; refine cat8 _ rfl (.tmp 49) (.tmp 50) rfl w4.heap.size w4.heap.size (.slice (some ⟨w4.heap.size, 0, none⟩) 0 0) [] X B3 xl k3 rfl rfl HG0.out.own HTB0.out.1 HO4.out.2.1 HG0.out.below.size (by have := HXL.out; show 0 + xl ≤ 1000000; omega) ?_)
  intro v5 w5 ho5 hg5 _
  have hG5 := HG0.out.grow ho5 hg5
  obtain ⟨B5, k5, rfl⟩ := hG5.slice xl HXL.out.1
  have HG5 := Lib.hid hG5
  have HTB5 := Lib.hid (HTB.out _ _ _ hG5)
  clear ho5 hg5 hG5 HG0 HTB0
  go_wp2_with (at_builtin; refine cat8 _ rfl (.tmp 51) (.tmp 52) rfl w4.heap.size w4.heap.size (.slice B5 xl k5) X Y B4 yl k4 rfl rfl HG5.out.own HTB5.out.2 HO4.out.2.2.2 HG5.out.below.size (by have := HXL.out; have := HYL.out; omega) ?_)
  intro v6 w6 ho6 hg6 _
  have hG6 := HG5.out.grow ho6 hg6
  obtain ⟨nl, hnl⟩ : ∃ nl, xl + yl = nl := ⟨_, rfl⟩
  obtain ⟨B6, k6, rfl⟩ := hG6.slice nl (by rw [List.length_append, HXL.out.1, HYL.out.1]; exact hnl)
  have HG6 := Lib.hid hG6
  clear ho6 hg6 hG6 HG5 HTB5 HTB HO4
  obtain ⟨m, hm⟩ : ∃ m, n0 + n1 = m := ⟨_, rfl⟩
  have em : (n0 : Int) + (n1 : Int) = (m : Int) := by omega
  have HM := Lib.hid hm
  clear hm
  go_wp2_with fail
  have hT6 := HG6.out.below
  have hL6 : (a ++ b).length = m := by rw [List.length_append, HLN.out.1, HLN.out.2]; exact HM.out
  have HU : RowKit.Hid (∀ (lim : Nat) (wx : World), lim ≤ 1048576 → Below w6.heap.size w6 wx → Calls Tryz.prog 7 #[.slice B6 nl k6, .int .i64 (lim : Int)] wx (UpM wx (BackR lim (a ++ b)))) := Lib.hid (fun lim wx hlim hb => by
    have ho := HG6.out.own
    refine unpack_two B6 nl k6 a b z0 z1 lim wx ?_ (noCap' ho) (own_le ho) (own_form ho) (by have := HLN.out.1; omega) (by have := HLN.out.2; omega) hlim ?_ ?_ ?_
    · rw [HX.out, HY.out]; exact ho.rd.2.next hb
    · exact (HT4.out.1.block (hT6.block 2 HT4.out.2.2)).block (hb.block 2 (by have := hT6.size; have := HT4.out.2.2; omega))
    · exact (HT4.out.2.1.below hT6 (by have := HT4.out.2.2; omega)).below hb (by have := hT6.size; have := HT4.out.2.2; omega)
    · have := hT6.size; have := HT4.out.2.2; have := hb.size; omega)
  have HR6 := Lib.hid (And.intro (HR4.out.1.next hT6) (HR4.out.2.next hT6))
  have HB6 : RowKit.Hid (Below rb w w6 ∧ rb < w6.heap.size) := Lib.hid ⟨HB4.out.1.trans (hT6.mono (by have := HB4.out.2; omega)), by have := hT6.size; have := HB4.out.2; omega⟩
  have HLM := Lib.hid hL6
  have hm2 : m ≤ 4000 := by have := HM.out; omega
  clear hT6 hL6 HG6 HR4 HT4 HB4
  refine (HU.out m w6 (by omega) (Below.refl _ _)).mono ?_
  rintro e w7 ⟨hb7, ⟨k, hk, _⟩ | ⟨u, t, st, hk, rfl, ho7⟩⟩
  · exfalso
    rcases hk with ⟨h1, _⟩ | ⟨_, st, h2⟩
    · have := HLM.out; omega
    · cases h2
  have ht : t = a ++ b := by
    rcases hk with ⟨h1, h2⟩ | ⟨_, st, h2⟩
    · cases h2
    · injection h2 with h2; injection h2
  subst ht
  obtain ⟨Bu, ku, hu⟩ := ho7.slice
  rw [HLM.out] at hu
  subst hu
  have hR7 := And.intro (HR6.out.1.next hb7) (HR6.out.2.next hb7)
  have e1 := str8 w7 _ Bu m ku (a ++ b) (by have := ho7.rd.2; exact this)
  have e2 := str8 w7 _ A0 n0 c0 a hR7.1
  have e3 := str8 w7 _ A1 n1 c1 b hR7.2
  have e4 := run_string_add_sum (P := Tryz.prog) (w := w7) ⟨a.toArray⟩ ⟨b.toArray⟩ (by
    have h1 := HLN.out.1
    have h2 := HLN.out.2
    show a.toArray.size + b.toArray.size ≤ _
    simp only [List.size_toArray]
    omega)
  rw [str_cat a b] at e4
  generalize (⟨(a ++ b).toArray⟩ : ByteArray) = sab at e1 e4
  generalize (⟨a.toArray⟩ : ByteArray) = sa at e2 e4
  generalize (⟨b.toArray⟩ : ByteArray) = sb at e3 e4
  have HB7 : RowKit.Hid (Below rb w w7 ∧ rb < w7.heap.size ∧ Below w6.heap.size w6 w7) := Lib.hid ⟨HB6.out.1.trans (hb7.mono (by have := HB6.out.2; omega)), by have := hb7.size; have := HB6.out.2; omega, hb7⟩
  clear hk ho7 hb7 hR7 HR6 HB6
  by_cases h0 : m = 0
  · subst h0
    have d0 : (n0 : Int) + (n1 : Int) = 0 := by have := HM.out; omega
    go_wp2_with fail
    go_ret
    exact ⟨rfl, by rw [HRB.out]; exact HB7.out.1⟩
  · obtain ⟨m1, hm1⟩ : ∃ m1, m = m1 + 1 := ⟨m - 1, by omega⟩
    have em1 : (m : Int) - 1 = (m1 : Int) := by omega
    have hne : ((m : Int) == 0) = false := by simp; omega
    have HM1 := Lib.hid hm1
    clear hm1
    go_wp2_with fail
    refine (HU.out m1 w7 (by have := HM1.out; omega) HB7.out.2.2).mono ?_
    rintro e w8 ⟨hb8, ⟨k, hk, rfl⟩ | ⟨u, t, st, hk, _⟩⟩
    rotate_left
    · exfalso
      rcases hk with ⟨_, h2⟩ | ⟨h1, _⟩
      · cases h2
      · have := HLM.out; have := HM1.out; omega
    have hk3 : k = 3 := by
      rcases hk with ⟨h1, h2⟩ | ⟨_, st, h2⟩
      · injection h2
      · cases h2
    subst hk3
    have HB8 := Lib.hid (HB7.out.1.trans (hb8.mono (Nat.le_of_lt HB7.out.2.1)))
    have HI := Lib.hid (is_yes 3 w8 (.inl rfl))
    clear hk hb8
    go_wp2_with fail
    refine HI.out.mono ?_
    rintro e wz ⟨rfl, rfl⟩
    go_wp2_with fail
    go_ret
    exact ⟨rfl, by rw [HRB.out]; exact HB8.out⟩
end Go.Proofs.YtpnnlhegncbfaaaGreatDoor
