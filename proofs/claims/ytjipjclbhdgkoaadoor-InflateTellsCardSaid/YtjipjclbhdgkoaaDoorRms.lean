/- The reference's machine in memory; contracts of its wrong, put and number. -/
import Derived.Test.YtjipjclbhdgkoaaDoorMpl
import Derived.Test.YtjipjclbhdgkoaaDoorRef
namespace Go.Proofs.YtjipjclbhdgkoaaDoor
open Go.RowKit

/-- Block h holds the reference's machine: bits M, in the state s; an error's number, or nought. -/
structure RS (w : World) (h : Nat) (A : Option Addr) (N c : Nat) (M : List UInt8) (lim : Nat) (v : Value) (s : Sx) (bad : Nat) : Prop where
  row : Row w h #[.slice A N c, .int .i64 (s.pos : Int), v, .int .i64 (lim : Int), .int .i64 (s.steps : Int), .int .i64 (bad : Int)] 54
  rd : Rd w h A N (us M)
  nc : N ≤ c
  bin : Bin M
  m8 : N % 8 = 0
  le : s.pos ≤ N
  own : Own w (h + 1) v s.out
  ol : s.out.length ≤ lim + 1
  sp : s.steps ≤ s.pos + 1
  lm : lim ≤ 1048576
  nn : N ≤ 8000000
  form : (A = none ∧ N = 0 ∧ c = 0) ∨ ∃ b, A = some ⟨b, 0, none⟩
section
variable {w w' : World} {h : Nat} {A : Option Addr} {N c : Nat} {M : List UInt8} {lim : Nat} {v v' : Value} {s s' : Sx} {bad : Nat}
theorem RS.len (g : RS w h A N c M lim v s bad) : M.length = N := by have := g.rd.1; rwa [us_length] at this
theorem RS.lt (g : RS w h A N c M lim v s bad) : h < w.heap.size := g.row.lt
theorem RS.ownLt (g : RS w h A N c M lim v s bad) {k : Nat} (hk : v.ownBlock = some k) : h < k ∧ k < w.heap.size := by
  have := World.ownsRow.lt g.own k hk; omega
theorem RS.ne (g : RS w h A N c M lim v s bad) {k : Nat} (hk : k ≤ h) : some k ≠ v.ownBlock := by
  intro e; have := (g.ownLt e.symm).1; omega
theorem RS.cell0 (g : RS w h A N c M lim v s bad) : w.cell? ⟨h, 0, none⟩ = some (.slice A N c) := g.row.cell 0
theorem RS.cell1 (g : RS w h A N c M lim v s bad) : w.cell? ⟨h, 1, none⟩ = some (.int .i64 (s.pos : Int)) := g.row.cell 1
theorem RS.cell2 (g : RS w h A N c M lim v s bad) : w.cell? ⟨h, 2, none⟩ = some v := g.row.cell 2
theorem RS.cell3 (g : RS w h A N c M lim v s bad) : w.cell? ⟨h, 3, none⟩ = some (.int .i64 (lim : Int)) := g.row.cell 3
theorem RS.cell4 (g : RS w h A N c M lim v s bad) : w.cell? ⟨h, 4, none⟩ = some (.int .i64 (s.steps : Int)) := g.row.cell 4
theorem RS.cell5 (g : RS w h A N c M lim v s bad) : w.cell? ⟨h, 5, none⟩ = some (.int .i64 (bad : Int)) := g.row.cell 5
/-- Another block has changed, which is none of the machine's. -/
theorem RS.beyond {q : Option Nat} (g : RS w h A N c M lim v s bad) (hg : w.grownBy w' q) (hq : ∀ b, q = some b → h < b ∧ some b ≠ v.ownBlock) : RS w' h A N c M lim v s bad := by
  have hne : ∀ k, k ≤ h → some k ≠ q := fun k hk e => by have := (hq k e.symm).1; omega
  have hb : Below h w w' := ⟨hg.os, hg.tape, hg.output, hg.size, fun k hk => hg.block k (Nat.lt_trans hk g.lt) (hne k (by omega))⟩
  exact ⟨g.row.grown hg (hne h (Nat.le_refl _)), g.rd.below hb, g.nc, g.bin, g.m8, g.le, World.ownsRow.kept g.own hg (by
      cases hv : v.ownBlock with
      | none => exact .inl rfl
      | some k => right; intro e; exact (hq k e.symm).2 hv.symm), g.ol, g.sp, g.lm, g.nn, g.form⟩
theorem RS.still (g : RS w h A N c M lim v s bad) (hg : w.grownBy w' none) : RS w' h A N c M lim v s bad := g.beyond hg (fun _ e => by cases e)
/-- A number of the machine is set. -/
theorem RS.set (g : RS w h A N c M lim v s bad) (i : Nat) (u : Value) {s' : Sx} {bad' : Nat}
    (hr : (#[.slice A N c, .int .i64 (s.pos : Int), v, .int .i64 (lim : Int), .int .i64 (s.steps : Int), .int .i64 (bad : Int)] : Array Value).setIfInBounds i u = #[.slice A N c, .int .i64 (s'.pos : Int), v, .int .i64 (lim : Int), .int .i64 (s'.steps : Int), .int .i64 (bad' : Int)])
    (h1 : s'.pos ≤ N) (h2 : s'.out = s.out) (h3 : s'.steps ≤ s'.pos + 1) : RS (w.setCell ⟨h, i, none⟩ u) h A N c M lim v s' bad' ∧ Moves w (w.setCell ⟨h, i, none⟩ u) h h v v := by
  have hg := grown_setCell w h i u
  have hb : Below h w (w.setCell ⟨h, i, none⟩ u) := ⟨hg.os, hg.tape, hg.output, hg.size, fun k hk => hg.block k (Nat.lt_trans hk g.lt) (fun e => by injection e with e; omega)⟩
  refine ⟨⟨by rw [← hr]; exact g.row.set i u, g.rd.below hb, g.nc, g.bin, g.m8, h1, by rw [h2]; exact World.ownsRow.kept g.own hg (.inr (Ne.symm (g.ne (Nat.le_refl _)))), by rw [h2]; exact g.ol, h3, g.lm, g.nn, g.form⟩, Moves.grown v hg (.inr (.inl rfl))⟩
theorem RS.text {w1 : World} {out' : List UInt8} (g : RS w h A N c M lim v s bad) (hg : w.grownBy w1 v.ownBlock) (ho : Own w1 (h + 1) v' out') (hf : Fresh w v v') (hl : out'.length ≤ lim + 1) :
    RS (w1.setCell ⟨h, 2, none⟩ v') h A N c M lim v' ⟨s.pos, out', s.steps⟩ bad ∧ Moves w (w1.setCell ⟨h, 2, none⟩ v') h h v v' := by
  have hg2 := grown_setCell w1 h 2 v'
  have hm : Moves w (w1.setCell ⟨h, 2, none⟩ v') h h v v' :=
    ⟨hg2.os.trans hg.os, hg2.tape.trans hg.tape, hg2.output.trans hg.output, Nat.le_trans hg.size hg2.size,
      fun k hk k1 _ k3 => (hg2.block k (Nat.lt_of_lt_of_le hk hg.size) (fun e => by injection e with e; exact k1 e)).trans (hg.block k hk k3), hf⟩
  have hb : Below h w (w1.setCell ⟨h, 2, none⟩ v') := ⟨hm.os, hm.tape, hm.output, hm.size, fun k hk => hm.block k (Nat.lt_trans hk g.lt) (by omega) (by omega) (g.ne (by omega))⟩
  have hne : v'.ownBlock = none ∨ v'.ownBlock ≠ some h := by
    rcases hf with e | ⟨j, e, hj⟩
    · rw [e]; exact .inr (Ne.symm (g.ne (Nat.le_refl _)))
    · rw [e]; right; intro e; injection e with e; have := g.lt; omega
  exact ⟨⟨(g.row.grown hg (g.ne (Nat.le_refl _))).set 2 _, g.rd.below hb, g.nc, g.bin, g.m8, g.le, World.ownsRow.kept ho hg2 hne, hl, g.sp, g.lm, g.nn, g.form⟩, hm⟩
/-- What a part of the reference does: as the plain part, or it notes its error. -/
def ROut (w : World) (h : Nat) (A : Option Addr) (N c : Nat) (M : List UInt8) (lim : Nat) (v : Value) {α : Type} (x : Except Nat (α × Sx)) (P : α → Ending → World → Value → Prop) (Q : Ending → Prop) (e : Ending) (w' : World) : Prop :=
  (∃ a s' v', x = .ok (a, s') ∧ RS w' h A N c M lim v' s' 0 ∧ Moves w w' h h v v' ∧ P a e w' v') ∨
  (∃ k s' v', x = .error k ∧ k ≠ 0 ∧ RS w' h A N c M lim v' s' k ∧ Moves w w' h h v v' ∧ Q e)
def zeroI (e : Ending) : Prop := e = .returned (.int .i64 0)
def unitE (e : Ending) : Prop := e = .returned (.tuple #[])
end
variable {h : Nat} {A : Option Addr} {N c : Nat} {M : List UInt8} {lim : Nat} {v : Value} {s : Sx} {bad : Nat}

set_option maxHeartbeats 400000 in
/-- wrong, where nothing is to be noted. -/
theorem rwrong_no (b : Bool) (k : Int) (w : World) (g : RS w h A N c M lim v s bad) (hb : bad ≠ 0 ∨ b = false) : Calls Tryd.prog 24 #[.pointer (some ⟨h, 0, none⟩), .bool b, .int .i64 k] w fun e w' => e = .returned (.tuple #[]) ∧ w = w' := by
  have c5 := g.cell5
  clear g
  by_cases h0 : bad = 0
  · obtain rfl : b = false := by rcases hb with hb | hb; exact absurd h0 hb; exact hb
    subst h0
    clear hb
    go_enter Tryd.func24, Tryd.ntmps24
    go_wp2_with fail
    go_end0
    exact ⟨rfl, rfl⟩
  · have e1 : ((bad : Int) == 0) = false := by rw [beq_eq_false_iff_ne]; omega
    clear hb
    go_enter Tryd.func24, Tryd.ntmps24
    go_wp2_with fail
    go_end0
    exact ⟨rfl, rfl⟩
set_option maxHeartbeats 400000 in
/-- wrong, where something is. -/
theorem rwrong_yes (b : Bool) (hb : b = true) (k : Nat) (z : Int) (hz : z = (k : Int)) (w : World) (g : RS w h A N c M lim v s 0) : Calls Tryd.prog 24 #[.pointer (some ⟨h, 0, none⟩), .bool b, .int .i64 z] w fun e w' => e = .returned (.tuple #[]) ∧ RS w' h A N c M lim v s k ∧ Moves w w' h h v v ∧ w.grownBy w' (some h) := by
  subst hb hz
  have c5 := g.cell5
  have f5 := g.row.thawed 5
  have HG := Lib.hid (g.set 5 (.int .i64 (k : Int)) (s' := s) (bad' := k) rfl g.le rfl g.sp)
  have HGR := Lib.hid (grown_setCell w h 5 (.int .i64 (k : Int)))
  clear g
  go_enter Tryd.func24, Tryd.ntmps24
  go_wp2_with fail
  go_end0
  exact ⟨rfl, HG.out.1, HG.out.2, HGR.out⟩
set_option maxHeartbeats 400000 in
theorem rput_one (x : UInt8) (w : World) (g : RS w h A N c M lim v s bad) (hl : s.out.length ≤ lim) : Calls Tryd.prog 30 #[.pointer (some ⟨h, 0, none⟩), .int .u8 (x.toNat : Int)] w fun e w' => e = .returned (.tuple #[]) ∧ ∃ v', RS w' h A N c M lim v' ⟨s.pos, s.out ++ [x], s.steps⟩ bad ∧ Moves w w' h h v v' := by
  have c2 := g.cell2
  have HG := Lib.hid g
  have HB : RowKit.Hid (h + 1 ≤ w.heap.size) := Lib.hid g.lt
  have HS : RowKit.Hid (s.out.length + 1 ≤ 4000000) := Lib.hid (by have := g.lm; omega)
  have HQ : RowKit.Hid ((s.out ++ [x]).length = s.out.length + 1) := Lib.hid (by simp)
  have HL := Lib.hid hl
  clear g hl
  go_enter Tryd.func30, Tryd.ntmps30
  go_wp2_with (at_builtin; refine push8b w rfl (.tmp 8) (.tmp 10) rfl (h + 1) v s.out [x] _ 1 rfl rfl HG.out.own rfl rfl HB.out HS.out ?_)
  intro v6 w6 ho6 hg6 hf6
  obtain ⟨A6, c6, hv6⟩ := ho6.slice
  rw [HQ.out] at hv6
  obtain ⟨q6, hq6⟩ : ∃ q6, s.out.length + 1 = q6 := ⟨_, rfl⟩
  rw [hq6] at hv6
  subst hv6
  have hr6 := HG.out.row.grown hg6 (HG.out.ne (Nat.le_refl _))
  have c61 : w6.cell? ⟨h, 2, none⟩ = some v := hr6.cell 2
  have f61 := hr6.thawed 2
  have HT := Lib.hid (HG.out.text hg6 ho6 hf6 (by rw [HQ.out]; have := HL.out; omega))
  clear hr6 ho6 hg6 hf6 hq6
  go_wp2_with fail
  go_end0
  exact ⟨rfl, _, HT.out.1, HT.out.2⟩
set_option maxHeartbeats 400000 in
theorem rnum_bad (k : Int) (w : World) (g : RS w h A N c M lim v s bad) (hb : bad ≠ 0) : Calls Tryd.prog 18 #[.pointer (some ⟨h, 0, none⟩), .int .i64 k] w fun e w' => e = .returned (.int .i64 0) ∧ w = w' := by
  have c5 := g.cell5
  have e1 : ((bad : Int) == 0) = false := by rw [beq_eq_false_iff_ne]; omega
  have e2 : ¬ (bad : Int) = 0 := by omega
  clear g
  go_enter Tryd.func18, Tryd.ntmps18
  go_wp2_with fail
  go_ret
  exact ⟨rfl, rfl⟩

set_option maxHeartbeats 1000000 in
set_option maxRecDepth 20000 in
theorem rnum_any (k : Nat) (hk : k ≤ 16) (w : World) (g : RS w h A N c M lim v s 0) :
    Calls Tryd.prog 18 #[.pointer (some ⟨h, 0, none⟩), .int .i64 (k : Int)] w (ROut w h A N c M lim v (numX k M lim s) ints zeroI) := by
  have c5 := g.cell5
  have c0 := g.cell0
  have c1 := g.cell1
  have hle := g.le
  have hnn := g.nn
  have HG := Lib.hid g
  obtain ⟨ps, hps⟩ : ∃ ps, s.pos = ps := ⟨_, rfl⟩
  have HPS := Lib.hid hps
  rw [hps] at c1 hle
  obtain ⟨pk, hpk⟩ : ∃ pk, ps + k = pk := ⟨_, rfl⟩
  have ek : (ps : Int) + (k : Int) = (pk : Int) := by omega
  have ew : IntKind.i64.wrap (pk : Int) = (pk : Int) := wrap64_in _ (by omega) (by omega)
  clear g hps
  by_cases hend : N < pk
  · have HX := Lib.hid (num_err (lim := lim) (L := M) (s := s) (k := k) (by rw [HG.out.len, HPS.out]; omega))
    rw [HX.out]
    have hd : decide ((N : Int) < (pk : Int)) = true := decide_eq_true (by omega)
    go_enter Tryd.func18, Tryd.ntmps18
    go_wp2_with fail
    go_still (by kernel_rfl)
    change Exit.then _ _ _ _ w.drew
    have hg2 := HG.out.still (drew_grown w)
    have HM2 : RowKit.Hid (Moves w w.drew h h v v) := Lib.hid (Moves.grown v (drew_grown w) (.inl rfl))
    have HG2 := Lib.hid (hg2.set 5 (.int .i64 10) (s' := s) (bad' := 10) rfl hg2.le rfl hg2.sp)
    have d5 := hg2.cell5
    have f5 := hg2.row.thawed 5
    clear hg2 c5 c0 c1
    generalize w.drew = w2 at HM2 HG2 d5 f5 ⊢
    go_wp2_with fail
    go_ret
    exact .inr ⟨10, s, v, rfl, by decide, HG2.out.1, HM2.out.trans HG2.out.2, rfl⟩
  · have HX := Lib.hid (num_fine (lim := lim) (L := M) (s := s) (k := k) (by rw [HG.out.len, HPS.out]; omega))
    rw [HX.out]
    have hd : decide ((N : Int) < (pk : Int)) = false := decide_eq_false (by omega)
    have hNp : ¬ N < pk := hend
    have hlt : numB ((M.drop s.pos).take k) < 65536 := Nat.lt_of_lt_of_le (numB_lt ((HG.out.bin.drop _).take _)) (by
      have := Nat.pow_le_pow_right (show 0 < 2 by decide) (show ((M.drop s.pos).take k).length ≤ 16 by rw [List.length_take]; omega)
      exact this)
    rw [HPS.out] at hlt ⊢
    have HB := Lib.hid ((HG.out.bin.drop ps).take k)
    have hpc : ps ≤ c := by have := HG.out.nc; omega
    have hpk2 : ps ≤ pk := by omega
    have hpkc : pk ≤ c := by have := HG.out.nc; omega
    have HD : RowKit.Hid (∀ w', Below h w w' → ∀ A', (A' = A ∧ c = ps ∨ ∃ b, A = some ⟨b, 0, none⟩ ∧ A' = some ⟨b, ps, none⟩) → Rd w' h A' (pk - ps) (us ((M.drop ps).take k))) := Lib.hid (fun w' hb A' hA' => by
      have hr := HG.out.rd.below hb
      have hl : (us ((M.drop ps).take k)).length = pk - ps := by rw [us_length, List.length_take, List.length_drop, HG.out.len]; omega
      rcases hA' with ⟨rfl, hc⟩ | ⟨b, rfl, rfl⟩
      · exact ⟨hl, fun h0 => by omega⟩
      · have h1 := hr.part ps (pk - ps) (by omega)
        rw [Nat.zero_add, show ((us M).drop ps).take (pk - ps) = us ((M.drop ps).take k) by rw [show pk - ps = k by omega]; simp [us, List.map_take, List.map_drop]] at h1
        exact h1)
    obtain ⟨y, hy⟩ : ∃ y, numB ((M.drop ps).take k) = y := ⟨_, rfl⟩
    have HY := Lib.hid hy
    rw [hy] at hlt ⊢
    clear hy
    have ewy : IntKind.i64.wrap (y : Int) = (y : Int) := wrap64_in _ (by omega) (by omega)
    have hn32 : pk - ps ≤ 32 := by omega
    go_enter Tryd.func18, Tryd.ntmps18
    go_wp2_with fail
    go_still (by kernel_rfl)
    change Exit.then _ _ _ _ w.drew
    have hg2 := HG.out.still (drew_grown w)
    have HM2 : RowKit.Hid (Moves w w.drew h h v v) := Lib.hid (Moves.grown v (drew_grown w) (.inl rfl))
    have HB2 : RowKit.Hid (Below h w w.drew) := Lib.hid ⟨rfl, rfl, rfl, Nat.le_refl _, fun _ _ => rfl⟩
    have d0 := hg2.cell0
    have d1 : w.drew.cell? ⟨h, 1, none⟩ = some (.int .i64 (ps : Int)) := by have := hg2.cell1; rwa [HPS.out] at this
    have HG2 := Lib.hid hg2
    clear hg2 c5 c0 c1
    generalize w.drew = w2 at HM2 HG2 HB2 d0 d1 ⊢
    go_wp2_with fail
    by_cases hcp : c = ps
    · subst hcp
      have HB3 : RowKit.Hid (Below h w w2.drew) := Lib.hid (HB2.out.trans ⟨rfl, rfl, rfl, Nat.le_refl _, fun _ _ => rfl⟩)
      have HZ3 : RowKit.Hid (h ≤ w2.drew.heap.size) := Lib.hid (Nat.le_of_lt HG2.out.lt)
      refine wp_region_still_lit (by kernel_rfl) (by kernel_rfl) ?_
      repeat still_step
      still_call (rnumber_any _ _ _ ((M.drop c).take k) w2.drew (by have h9 := (HD.out _ HB3.out _ (.inl ⟨rfl, rfl⟩)).more HZ3.out; rwa [show pk - c = 0 by omega] at h9) HB.out (by omega))
      rw [HY.out]
      repeat still_step
      refine wpStill_nil ?_
      change Exit.then _ _ _ _ w2.drew
      have hg3 := HG2.out.still (drew_grown w2)
      have HM3 := Lib.hid (HM2.out.trans (Moves.grown v (drew_grown w2) (.inl rfl)))
      have k1 : w2.drew.cell? ⟨h, 1, none⟩ = some (.int .i64 (c : Int)) := by have := hg3.cell1; rwa [HPS.out] at this
      have f1 := hg3.row.thawed 1
      have HG3 := Lib.hid (hg3.set 1 (.int .i64 (pk : Int)) (s' := ⟨pk, s.out, s.steps⟩) (bad' := 0) rfl (show pk ≤ N by omega) rfl (by have := hg3.sp; rw [HPS.out] at this; show s.steps ≤ pk + 1; omega))
      clear hg3 d0 d1
      generalize w2.drew = w3 at HM3 HG3 k1 f1 ⊢
      go_wp2_with fail
      go_ret
      exact .inl ⟨y, ⟨pk, s.out, s.steps⟩, v, by first | rfl | rw [hpk], HG3.out.1, HM3.out.trans HG3.out.2, rfl⟩
    rcases HG2.out.form with ⟨rfl, hN0, hc0⟩ | ⟨b, rfl⟩
    · omega
    have HB3 : RowKit.Hid (Below h w w2.drew) := Lib.hid (HB2.out.trans ⟨rfl, rfl, rfl, Nat.le_refl _, fun _ _ => rfl⟩)
    have HZ3 : RowKit.Hid (h ≤ w2.drew.heap.size) := Lib.hid (Nat.le_of_lt HG2.out.lt)
    refine wp_region_still_lit (by kernel_rfl) (by kernel_rfl) ?_
    repeat still_step
    still_call (rnumber_any _ _ _ ((M.drop ps).take k) w2.drew ((HD.out _ HB3.out _ (.inr ⟨b, rfl, rfl⟩)).more HZ3.out) HB.out hn32)
    rw [HY.out]
    repeat still_step
    refine wpStill_nil ?_
    change Exit.then _ _ _ _ w2.drew
    have hg3 := HG2.out.still (drew_grown w2)
    have HM3 := Lib.hid (HM2.out.trans (Moves.grown v (drew_grown w2) (.inl rfl)))
    have k1 : w2.drew.cell? ⟨h, 1, none⟩ = some (.int .i64 (ps : Int)) := by have := hg3.cell1; rwa [HPS.out] at this
    have f1 := hg3.row.thawed 1
    have HG3 := Lib.hid (hg3.set 1 (.int .i64 (pk : Int)) (s' := ⟨pk, s.out, s.steps⟩) (bad' := 0) rfl (show pk ≤ N by omega) rfl (by have := hg3.sp; rw [HPS.out] at this; show s.steps ≤ pk + 1; omega))
    clear hg3 d0 d1
    generalize w2.drew = w3 at HM3 HG3 k1 f1 ⊢
    go_wp2_with fail
    go_ret
    exact .inl ⟨y, ⟨pk, s.out, s.steps⟩, v, by first | rfl | rw [hpk], HG3.out.1, HM3.out.trans HG3.out.2, rfl⟩
end Go.Proofs.YtjipjclbhdgkoaaDoor
