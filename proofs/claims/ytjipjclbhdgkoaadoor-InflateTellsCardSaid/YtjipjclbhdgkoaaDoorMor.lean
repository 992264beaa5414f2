/- The law InflateMore. -/
import Derived.Test.YtjipjclbhdgkoaaDoorBnd
namespace Go.Proofs.YtjipjclbhdgkoaaDoor
open Go.RowKit

theorem bits_take {l m : List UInt8} {k p : Nat} (hk : k ≤ l.length) (hp : p ≤ 8 * k) : (bitsL (l.take k ++ m)).take p = (bitsL l).take p := by
  have h1 : bitsL l = bitsL (l.take k) ++ bitsL (l.drop k) := by rw [← bitsL_append, List.take_append_drop]
  have h2 : p ≤ (bitsL (l.take k)).length := by rw [bitsL_length, List.length_take]; omega
  rw [bitsL_append, List.take_append_of_le_length h2, h1, List.take_append_of_le_length h2]
/-- The same bytes ahead, others behind, a limit that is great enough. -/
theorem more_same {l m : List UInt8} {lim lim' : Nat} {s : Sx} (h : inflF (8 * l.length + 1) (bitsL l) lim = .ok ((), s)) (hl : s.out.length ≤ lim') :
    inflF (8 * (l.take ((s.pos + 7) / 8) ++ m).length + 1) (bitsL (l.take ((s.pos + 7) / 8) ++ m)) lim' = .ok ((), s) := by
  obtain ⟨g1, g2, g3, g4⟩ := infl_bounds (bits_of l) h
  rw [bitsL_length] at g2
  refine infl_same (bits_of l) (bits_of _) h (bits_take (by omega) (by omega)) hl ?_
  rw [List.length_append, List.length_take]
  omega
theorem same_lim {l : List UInt8} {lim lim' : Nat} {s : Sx} (h : inflF (8 * l.length + 1) (bitsL l) lim = .ok ((), s)) (hl : s.out.length ≤ lim') : inflF (8 * l.length + 1) (bitsL l) lim' = .ok ((), s) := by
  obtain ⟨g1, g2, g3, g4⟩ := infl_bounds (bits_of l) h
  rw [bitsL_length] at g2
  exact infl_same (bits_of l) (bits_of l) h rfl hl (by omega)
theorem less_lim {l : List UInt8} {lim lim' : Nat} {s s' : Sx} (h : inflF (8 * l.length + 1) (bitsL l) lim = .ok ((), s)) (hl : lim' < s.out.length) (h' : inflF (8 * l.length + 1) (bitsL l) lim' = .ok ((), s')) : False := by
  obtain ⟨g1, g2, g3, g4⟩ := infl_bounds (bits_of l) h'
  obtain ⟨_, _, k3, _⟩ := infl_bounds (bits_of l) h
  have := same_lim h' (lim' := lim) (by omega)
  rw [h] at this
  injection this with this
  injection this with _ this
  subst this
  omega

/-- A cell that is there, behind an alloc. -/
theorem cell_on {w : World} {a : Addr} {v : Value} (h : w.cell? a = some v) : ∀ o, (w.alloc o).cell? a = some v := fun o => (World.cell?_alloc_some w a o (by rw [h]; rfl)).trans h

set_option maxHeartbeats 4000000 in
set_option maxRecDepth 20000 in
theorem more_any (A : Option Addr) (n c : Nat) (l : List UInt8) (A' : Option Addr) (n' c' : Nat) (l' : List UInt8) (x : Int) (w : World) (hr : Rd w w.heap.size A n (us l)) (hA : A = none → c = 0) (hnc : n ≤ c) (hr' : Rd w w.heap.size A' n' (us l')) (hA' : A' = none → c' = 0) (ht : Tab w) (h0 : 0 < w.heap.size) :
    Calls Tryd.prog 5 #[.slice A n c, .slice A' n' c', .int .i64 x] w fun e w' => e = .returned (.bool true) ∧ Below w.heap.size w w' := by
  have HL : RowKit.Hid (l.length = n) := Lib.hid (by have := hr.1; rwa [us_length] at this)
  have HL' : RowKit.Hid (l'.length = n') := Lib.hid (by have := hr'.1; rwa [us_length] at this)
  have HR := Lib.hid hr
  have HR' := Lib.hid hr'
  have HA := Lib.hid hA
  have HA' := Lib.hid hA'
  have HT := Lib.hid (And.intro ht h0)
  clear hr hA hr' hA' ht h0
  by_cases hbig : 2000 < n
  · have hd : decide (2000 < (n : Int)) = true := decide_eq_true (by omega)
    go_enter Tryd.func5, Tryd.ntmps5
    go_wp2_with fail
    refine (alive_true w HT.out.1 HT.out.2).mono ?_
    rintro e w1 ⟨rfl, hb1⟩
    have HB1 := Lib.hid hb1
    clear hb1
    go_wp2_with fail
    go_ret
    exact ⟨rfl, HB1.out⟩
  have hd : decide (2000 < (n : Int)) = false := decide_eq_false (by omega)
  by_cases hbig' : 200 < n'
  · have hd' : decide (200 < (n' : Int)) = true := decide_eq_true (by omega)
    go_enter Tryd.func5, Tryd.ntmps5
    go_wp2_with fail
    refine (alive_true w HT.out.1 HT.out.2).mono ?_
    rintro e w1 ⟨rfl, hb1⟩
    have HB1 := Lib.hid hb1
    clear hb1
    go_wp2_with fail
    go_ret
    exact ⟨rfl, HB1.out⟩
  have hd' : decide (200 < (n' : Int)) = false := decide_eq_false (by omega)
  go_enter Tryd.func5, Tryd.ntmps5
  go_wp2_with fail
  refine (alive_true w HT.out.1 HT.out.2).mono ?_
  rintro e w1 ⟨rfl, hb1⟩
  have HB1 := Lib.hid hb1
  clear hb1
  go_wp2_with fail
  refine (inflate_all A n c l x w1 (HR.out.next HB1.out) HA.out (by omega) (HT.out.1.below HT.out.2 HB1.out) (Nat.lt_of_lt_of_le HT.out.2 HB1.out.size)).mono ?_
  rintro e w2 ⟨hb2, ⟨k, _, rfl⟩ | ⟨s, u, hx, hs, rfl, hu⟩⟩
  · have HB2 : ∀ cs, RowKit.Hid (Below w.heap.size w (w2.alloc (.cells cs 25))) := fun cs => Lib.hid (by
      have h2 := HB1.out.trans (hb2.mono HB1.out.size)
      exact h2.grown (World.grownBy_alloc w2 _ none) h2.size (fun _ h => by cases h))
    clear hb2
    unfold zeroR
    go_wp2_with fail
    go_ret
    exact ⟨rfl, (HB2 _).out⟩
  have hB2 := HB1.out.trans (hb2.mono HB1.out.size)
  obtain ⟨g1, g2, g3, g4⟩ := infl_bounds (bits_of l) hs
  rw [bitsL_length, HL.out] at g2
  obtain ⟨xl, rfl⟩ : ∃ xl : Nat, x = (xl : Int) := ⟨x.toNat, by omega⟩
  rw [show ((xl : Int)).toNat = xl from rfl] at hs g3
  obtain ⟨A2, c2, rfl⟩ := hu.slice
  have HS := Lib.hid hs
  have HG := Lib.hid (And.intro g1 (And.intro g2 (And.intro g3 g4)))
  have HU0 := Lib.hid hu
  obtain ⟨q, hq⟩ : ∃ q, s.out.length = q := ⟨_, rfl⟩
  obtain ⟨ud, hud⟩ : ∃ ud, (s.pos + 7) / 8 = ud := ⟨_, rfl⟩
  obtain ⟨st, hst⟩ : ∃ st, s.steps = st := ⟨_, rfl⟩
  have HN := Lib.hid (And.intro hq (And.intro hud hst))
  rw [hq] at HU0
  rw [hq, hud, hst]
  have hudn : ud ≤ n := by omega
  have hudc : ud ≤ c := by omega
  have hql : q ≤ 1048576 := by omega
  have HXL : RowKit.Hid (xl ≤ 1048576) := Lib.hid (by omega)
  have hn0 : 0 < n := by omega
  obtain ⟨b, o, rfl, _, _⟩ := HR.out.2 hn0
  have hga := World.grownBy_alloc w2 (.cells #[.slice A2 q c2, .int .i64 (ud : Int), .int .i64 (st : Int)] 25) none
  have hB3 := hB2.grown hga hB2.size (fun _ h => by cases h)
  have hgb := World.grownBy_alloc (w2.alloc (.cells #[.slice A2 q c2, .int .i64 (ud : Int), .int .i64 (st : Int)] 25)) (.cells #[] 5) none
  have hB4 := hB3.grown hgb hB3.size (fun _ h => by cases h)
  have HO0 : RowKit.Hid (Own ((w2.alloc (.cells #[.slice A2 q c2, .int .i64 (ud : Int), .int .i64 (st : Int)] 25)).alloc (.cells #[] 5)) (w2.heap.size + 1) (.slice (some ⟨w2.heap.size + 1, 0, none⟩) 0 0) []) := Lib.hid (by
    have h1 := Own.lit (w2.alloc (.cells #[.slice A2 q c2, .int .i64 (ud : Int), .int .i64 (st : Int)] 25)) #[] [] 0 rfl rfl (by decide)
    rwa [show (w2.alloc (.cells #[.slice A2 q c2, .int .i64 (ud : Int), .int .i64 (st : Int)] 25)).heap.size = w2.heap.size + 1 by simp] at h1)
  have HW7 := Lib.hid ((Row.new w2 #[.slice A2 q c2, .int .i64 (ud : Int), .int .i64 (st : Int)] 25).grown hgb (by simp))
  have HU4 := Lib.hid ((HU0.out.rd.2.next (below_make hga)).next (below_make hgb))
  have HB4 := Lib.hid hB4
  have HP : RowKit.Hid (Rd w w.heap.size (some ⟨b, o, none⟩) ud (us (l.take ud))) := Lib.hid (by
    have h1 := HR.out.part 0 ud (by omega)
    rw [List.drop_zero, show (us l).take ud = us (l.take ud) by simp [us, List.map_take]] at h1
    exact h1)
  have HZ4 : RowKit.Hid (w2.heap.size < ((w2.alloc (.cells #[.slice A2 q c2, .int .i64 (ud : Int), .int .i64 (st : Int)] 25)).alloc (.cells #[] 5)).heap.size ∧ w.heap.size ≤ w2.heap.size) := Lib.hid ⟨by simp; omega, hB2.size⟩
  clear hb2 hB2 g1 g2 g3 g4 hu hs hx hga hB3 hgb hB4 hq hud hst
  have HZ5 : RowKit.Hid (w2.heap.size + 1 ≤ ((w2.alloc (.cells #[.slice A2 q c2, .int .i64 (ud : Int), .int .i64 (st : Int)] 25)).alloc (.cells #[] 5)).heap.size) := Lib.hid (by simp)
  go_wp2_with (at_builtin; refine cat8b ((w2.alloc (.cells #[.slice A2 q c2, .int .i64 (ud : Int), .int .i64 (st : Int)] 25)).alloc (.cells #[] 5)) rfl (.tmp 34) (.tmp 38) rfl (w2.heap.size + 1) w.heap.size (.slice (some ⟨w2.heap.size + 1, 0, none⟩) 0 0) [] (l.take ud) (some ⟨b, o, none⟩) ud c rfl rfl HO0.out (HP.out.below HB4.out) (by simp) HZ5.out (by simp; omega) ?_)
  intro v5 w5 ho5 hg5 _
  have hbw : Below (w2.heap.size + 1) _ w5 := (Below.refl _ _).grown hg5 HZ5.out (fun k hk => by have e : w2.heap.size + 1 = k := Option.some.inj hk; omega)
  have hrow7 := HW7.out.below hbw (Nat.lt_succ_self _)
  have hru : Rd w5 w2.heap.size A2 q (us s.out) := by
    have h1 := HU0.out.rd.2
    have hga := World.grownBy_alloc w2 (.cells #[.slice A2 q c2, .int .i64 (ud : Int), .int .i64 (st : Int)] 25) none
    have hgb := World.grownBy_alloc (w2.alloc (.cells #[.slice A2 q c2, .int .i64 (ud : Int), .int .i64 (st : Int)] 25)) (.cells #[] 5) none
    have h2 : Below w2.heap.size w2 _ := (below_make hga).grown hgb (below_make hga).size (fun _ h => by cases h)
    exact (h1.below h2).below (hbw.mono (Nat.le_succ _))
  have hBw5 : Below w.heap.size w w5 := HB4.out.grown hg5 HB4.out.size (fun k hk => by have e : w2.heap.size + 1 = k := Option.some.inj hk; have := HZ4.out.2; omega)
  have hz5 : w2.heap.size + 1 ≤ w5.heap.size := Nat.le_trans HZ5.out hg5.size
  have ho5' : Own w5 (w2.heap.size + 1) v5 (l.take ud) := ho5
  obtain ⟨A5, c5, hv5⟩ := ho5'.slice
  have hlt5 : (l.take ud).length = ud := by rw [List.length_take, HL.out]; omega
  rw [hlt5] at hv5
  subst hv5
  have HR7 := Lib.hid hrow7
  have HRU := Lib.hid hru
  have HB5 := Lib.hid hBw5
  have HZ6 := Lib.hid hz5
  have HO5 := Lib.hid ho5'
  have HWB : RowKit.Hid (w.heap.size ≤ w2.heap.size) := Lib.hid HZ4.out.2
  clear hbw hrow7 hru hBw5 hz5 ho5 ho5' hg5 hlt5 HO0 HW7 HU4 HB4 HP HZ4 HZ5 HU0
  generalize w2.heap.size = b7 at HR7 HRU HZ6 HO5 HWB ⊢
  go_wp2_with (at_builtin; refine cat8b w5 rfl (.tmp 39) (.tmp 40) rfl (b7 + 1) w.heap.size (.slice A5 ud c5) (l.take ud) l' A' n' c' rfl rfl HO5.out (HR'.out.below HB5.out) HA'.out HZ6.out (by have := HL.out; rw [List.length_take]; omega) ?_)
  intro v6 w6 ho6 hg6 _
  have hlt6 : (l.take ud ++ l').length = ud + n' := by rw [List.length_append, List.length_take, HL.out, HL'.out]; omega
  have hb56 : Below (b7 + 1) w5 w6 := HO5.out.grown hg6 (Below.refl _ _) HZ6.out
  obtain ⟨A6, c6, hv6⟩ := ho6.slice
  rw [hlt6] at hv6
  subst hv6
  have HB56 := Lib.hid hb56
  have HO6 := Lib.hid ho6
  have HB6 := Lib.hid (HB5.out.trans (hb56.mono (by have := HWB.out; omega)))
  have HS6 := Lib.hid (more_same (m := l') HS.out HG.out.2.2.1)
  rw [HN.out.2.1] at HS6
  clear ho6 hg6 hb56 HO5 hlt6
  go_wp2_with fail
  refine (inflate_all A6 (ud + n') c6 (l.take ud ++ l') (xl : Int) w6 HO6.out.rd.2 HO6.out.capz (by omega) (HT.out.1.below HT.out.2 HB6.out) (Nat.lt_of_lt_of_le HT.out.2 HB6.out.size)).mono ?_
  rintro e w7 ⟨hb7, ⟨k, hk, rfl⟩ | ⟨s7, u7, hx7, hs7, rfl, hu7⟩⟩
  · exfalso
    rcases hk with ⟨h1, _⟩ | ⟨h1, j, _, h2⟩
    · have := HG.out.2.2.1; have := HXL.out; omega
    · rw [show ((xl : Int)).toNat = xl from rfl, HS6.out] at h2; cases h2
  rw [show ((xl : Int)).toNat = xl from rfl, HS6.out] at hs7
  injection hs7 with hs7
  injection hs7 with _ hs7
  subst hs7
  obtain ⟨A7, c7, rfl⟩ := hu7.slice
  rw [HN.out.1] at hu7 ⊢
  rw [HN.out.2.1, HN.out.2.2]
  have hb57 : Below (b7 + 1) w5 w7 := HB56.out.trans (hb7.mono (by have := HB56.out.size; have := HZ6.out; omega))
  have hB7 := HB6.out.trans (hb7.mono HB6.out.size)
  have hga := World.grownBy_alloc w7 (.cells #[.slice A7 q c7, .int .i64 (ud : Int), .int .i64 (st : Int)] 25) none
  have hz7 : b7 + 1 ≤ w7.heap.size := Nat.le_trans HZ6.out hb57.size
  have hB8 := hB7.grown hga hB7.size (fun _ h => by cases h)
  have hb58 : Below (b7 + 1) w5 _ := hb57.grown hga hz7 (fun _ h => by cases h)
  have hrow9 := Row.new w7 #[.slice A7 q c7, .int .i64 (ud : Int), .int .i64 (st : Int)] 25
  have hru7 := (hu7.rd.2.next (below_make hga))
  have k0 := cell_on (show w7.cell? ⟨b7, 0, none⟩ = some (.slice A2 q c2) from (HR7.out.below hb57 (Nat.lt_succ_self _)).cell 0)
  have HB8 := Lib.hid hB8
  have HB58 := Lib.hid hb58
  have HR9 := Lib.hid hrow9
  have HRU7 := Lib.hid (hu7.rd.2.below (below_make hga))
  have HZ8 : RowKit.Hid (b7 + 1 ≤ w7.heap.size ∧ w7.heap.size + 1 = (w7.alloc (.cells #[.slice A7 q c7, .int .i64 (ud : Int), .int .i64 (st : Int)] 25)).heap.size) := Lib.hid ⟨hz7, by simp⟩
  clear hb7 hx7 hu7 hb57 hB7 hga hz7 hB8 hb58 hrow9 hru7 HO6 HB6 HB56
  go_wp2_with fail
  generalize w7.alloc (.cells #[.slice A7 q c7, .int .i64 (ud : Int), .int .i64 (st : Int)] 25) = w8 at HB8 HB58 HR9 HRU7 HZ8 ⊢
  clear k0
  generalize w7.heap.size = b9 at HR9 HRU7 HZ8 ⊢
  refine (inflate_all (some ⟨b, o, none⟩) n c l (q : Int) w8 (HR.out.next HB8.out) (by simp) (by omega) (HT.out.1.below HT.out.2 HB8.out) (Nat.lt_of_lt_of_le HT.out.2 HB8.out.size)).mono ?_
  rintro e w9 ⟨hb9, ⟨k, hk, rfl⟩ | ⟨s9, u9, hx9, hs9, rfl, hu9⟩⟩
  · exfalso
    rcases hk with ⟨h1, _⟩ | ⟨h1, j, _, h2⟩
    · omega
    · rw [show ((q : Int)).toNat = q from rfl, same_lim HS.out (lim' := q) (by rw [HN.out.1]; exact Nat.le_refl _)] at h2; cases h2
  rw [show ((q : Int)).toNat = q from rfl, same_lim HS.out (lim' := q) (by rw [HN.out.1]; exact Nat.le_refl _)] at hs9
  injection hs9 with hs9
  injection hs9 with _ hs9
  subst hs9
  obtain ⟨A9, c9, rfl⟩ := hu9.slice
  rw [HN.out.1] at hu9 ⊢
  rw [HN.out.2.1, HN.out.2.2]
  have hb59 : Below (b7 + 1) w5 w9 := HB58.out.trans (hb9.mono (by have := HZ8.out; omega))
  have hB9 := HB8.out.trans (hb9.mono HB8.out.size)
  have h7 := HR7.out.below hb59 (Nat.lt_succ_self _)
  have h9 := HR9.out.below hb9 (by have := HZ8.out; omega)
  have k70 := cell_on (show w9.cell? ⟨b7, 0, none⟩ = some (.slice A2 q c2) from h7.cell 0)
  have k71 := cell_on (show w9.cell? ⟨b7, 1, none⟩ = some (.int .i64 (ud : Int)) from h7.cell 1)
  have k72 := cell_on (show w9.cell? ⟨b7, 2, none⟩ = some (.int .i64 (st : Int)) from h7.cell 2)
  have k90 := cell_on (show w9.cell? ⟨b9, 0, none⟩ = some (.slice A7 q c7) from h9.cell 0)
  have k91 := cell_on (show w9.cell? ⟨b9, 1, none⟩ = some (.int .i64 (ud : Int)) from h9.cell 1)
  have k92 := cell_on (show w9.cell? ⟨b9, 2, none⟩ = some (.int .i64 (st : Int)) from h9.cell 2)
  have hga := World.grownBy_alloc w9 (.cells #[.slice A9 q c9, .int .i64 (ud : Int), .int .i64 (st : Int)] 25) none
  have hBX := hB9.grown hga hB9.size (fun _ h => by cases h)
  have hmk := below_make hga
  have HC1 : RowKit.Hid (Rd (w9.alloc (.cells #[.slice A9 q c9, .int .i64 (ud : Int), .int .i64 (st : Int)] 25)) (w9.alloc (.cells #[.slice A9 q c9, .int .i64 (ud : Int), .int .i64 (st : Int)] 25)).heap.size A2 q (us s.out)) := Lib.hid (((HRU.out.below (hb59.mono (Nat.le_succ _))).more (by have := hb9.size; have := HZ8.out; omega)).next hmk)
  have HC2 : RowKit.Hid (Rd (w9.alloc (.cells #[.slice A9 q c9, .int .i64 (ud : Int), .int .i64 (st : Int)] 25)) (w9.alloc (.cells #[.slice A9 q c9, .int .i64 (ud : Int), .int .i64 (st : Int)] 25)).heap.size A7 q (us s.out)) := Lib.hid (((HRU7.out.below (hb9.mono (by have := HZ8.out; omega))).more (by have := hb9.size; have := HZ8.out; omega)).next hmk)
  have HC3 : RowKit.Hid (Rd (w9.alloc (.cells #[.slice A9 q c9, .int .i64 (ud : Int), .int .i64 (st : Int)] 25)) (w9.alloc (.cells #[.slice A9 q c9, .int .i64 (ud : Int), .int .i64 (st : Int)] 25)).heap.size A9 q (us s.out)) := Lib.hid (hu9.rd.2.next hmk)
  have HBX := Lib.hid hBX
  have HB5X := Lib.hid (hb59.grown hga (by have := hb9.size; have := HZ8.out; omega) (fun _ h => by cases h))
  have hq0 : ∀ (a b : Nat), q = 0 ∨ q ≠ 0 := fun _ _ => by omega
  clear hb9 hx9 hu9 hb59 hB9 h7 h9 hga hBX hmk HB8 HB58 HR9 HRU7
  go_wp2_with fail
  refine (bytes_same A7 A2 q c7 c2 s.out _ HC2.out HC1.out).mono ?_
  rintro e wA ⟨rfl, rfl⟩
  go_wp2_with fail
  refine (bytes_same A9 A2 q c9 c2 s.out _ HC3.out HC1.out).mono ?_
  rintro e wA ⟨rfl, rfl⟩
  by_cases hq0 : q = 0
  · subst hq0
    go_wp2_with fail
    go_ret
    exact ⟨rfl, HBX.out⟩
  obtain ⟨q1, hq1⟩ : ∃ q1, q - 1 = q1 := ⟨_, rfl⟩
  have e1 : (q : Int) - 1 = (q1 : Int) := by omega
  have e2 : ((q : Int) == 0) = false := by rw [beq_eq_false_iff_ne]; omega
  go_wp2_with fail
  refine (inflate_all (some ⟨b, o, none⟩) n c l (q1 : Int) _ (HR.out.next HBX.out) (by simp) (by omega) (HT.out.1.below HT.out.2 HBX.out) (Nat.lt_of_lt_of_le HT.out.2 HBX.out.size)).mono ?_
  rintro e wB ⟨hbB, ⟨k, hk, rfl⟩ | ⟨sB, uB, hxB, hsB, rfl, huB⟩⟩
  rotate_left
  · exact (less_lim HS.out (by rw [HN.out.1]; omega) hsB).elim
  have HBB : ∀ cs, RowKit.Hid (Below w.heap.size w (wB.alloc (.cells cs 25))) := fun cs => Lib.hid (by
    have h2 := HBX.out.trans (hbB.mono HBX.out.size)
    exact h2.grown (World.grownBy_alloc wB _ none) h2.size (fun _ h => by cases h))
  clear hbB hk
  unfold zeroR
  go_wp2_with fail
  go_ret
  exact ⟨rfl, (HBB _).out⟩
end Go.Proofs.YtjipjclbhdgkoaaDoor
