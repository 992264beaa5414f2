/- An error that is passed on is caught with its code and place: the contract of the law GuardThrows. -/
import Derived.Test.YtlecghbhoecedaaAlive
namespace Go.Proofs.Ytlecghbhoecedaa
open Go.RowKit

def IsErr (c : Int) (s : ByteArray) (ev : Value) (w : World) : Prop :=
  (ev = .iface 43 (.int .i64 c) ∧ s = ⟨#[]⟩) ∨ ∃ b, ev = .iface 42 (.pointer (some ⟨b, 0, none⟩)) ∧ b < w.heap.size ∧ w.cell? ⟨b, 0, none⟩ = some (.int .i64 c) ∧ w.cell? ⟨b, 1, none⟩ = some (.string s)

theorem IsErr.later {c : Int} {s : ByteArray} {ev : Value} {w w' : World} (h : IsErr c s ev w) (hb : Below w.heap.size w w') : IsErr c s ev w' := by
  rcases h with h | ⟨b, rfl, h1, h2, h3⟩
  · exact .inl h
  · exact .inr ⟨b, rfl, by have := hb.size; omega, by rw [hb.cell h1]; exact h2, by rw [hb.cell h1]; exact h3⟩

theorem pass_err {c : Int} {s : ByteArray} {ev : Value} {w : World} (h : IsErr c s ev w) :
    Calls Try.prog 25 #[ev] w fun e w' => Threw c s w.heap.size e w' ∧ Below w.heap.size w w' := by
  rcases h with ⟨rfl, rfl⟩ | ⟨b, rfl, h1, h2, h3⟩
  · refine (pass_errno c w).mono ?_
    rintro e w' ⟨rfl, rfl⟩
    exact ⟨threw_new _ _ _, (Below.refl _ _).alloc (Nat.le_refl _) _⟩
  · refine (pass_fault b 0 c s w h2 h3).mono ?_
    rintro e w' ⟨rfl, rfl⟩
    exact ⟨threw_new _ _ _, (Below.refl _ _).alloc (Nat.le_refl _) _⟩

set_option maxHeartbeats 400000 in
theorem c24 (b : Nat) (c : Int) (s : ByteArray) (ev : Value) (w : World) (hc : w.cell? ⟨b, 0, none⟩ = some ev) (h : IsErr c s ev w) :
    Calls Try.prog 24 #[.pointer (some ⟨b, 0, none⟩)] w fun e w' => Threw c s w.heap.size e w' ∧ Below w.heap.size w w' := by
  have H := Lib.hid h
  clear h
  go_enter Try.func24, Try.ntmps24
  go_wp2_with fail
  refine (pass_err H.out).mono ?_
  rintro e w' ⟨⟨b', rfl, h⟩, hb⟩
  exact ⟨rfl, ⟨b', rfl, h⟩, hb⟩

set_option maxHeartbeats 400000 in
theorem c23 (b1 b2 : Nat) (c : Int) (t s : ByteArray) (ev : Value) (w : World) (h1 : w.cell? ⟨b1, 0, none⟩ = some (.string t)) (h2 : w.cell? ⟨b2, 0, none⟩ = some ev) (hb2 : b2 < w.heap.size) (h : IsErr c s ev w) (hs : t.size + s.size ≤ 1000000) :
    Calls Try.prog 23 #[.pointer (some ⟨b1, 0, none⟩), .pointer (some ⟨b2, 0, none⟩)] w fun e w' => Threw c (inside t s) w.heap.size e w' ∧ Below w.heap.size w w' := by
  have hmf : ∀ (fn : Fn) (first cap : Array Value) (w : World), (Instr.makeFunc fn first cap).run Try.prog w = .ok (.func fn first cap) w := fun _ _ _ _ => rfl
  have H := Lib.hid h
  have H2 := Lib.hid h2
  clear h h2
  go_enter Try.func23, Try.ntmps23
  go_wp2_with fail
  refine (in_threw t 24 #[] #[.pointer (some ⟨b2, 0, none⟩)] w c s hs (fun _ _ => rfl) ?_).mono ?_
  · have := c24 b2 c s ev (pre2 w) (by rw [(below_pre2 w).cell hb2]; exact H2.out) (H.out.later (below_pre2 w))
    rw [pre2_size] at this
    exact this
  rintro e w' ⟨⟨b', rfl, h⟩, hb⟩
  exact ⟨rfl, ⟨b', rfl, h⟩, hb⟩

set_option maxHeartbeats 400000 in
theorem c26 (w : World) : Calls Try.prog 26 #[] w fun e w' => e = .returned (.tuple #[]) ∧ Below w.heap.size w w' := by
  go_enter Try.func26, Try.ntmps26
  go_wp2_with fail
  refine (pass_nil w).mono ?_
  rintro e w' ⟨rfl, rfl⟩
  go_wp2_with fail
  go_end0
  exact ⟨rfl, Below.refl _ _⟩

/-- What a round of the loop does to the two: the place grows. -/
theorem inside_eq (t s : ByteArray) : inside t s = if s.toList.isEmpty then t else t ++ (⟨#[46]⟩ ++ s) := by
  unfold inside
  split
  · rfl
  · rw [ByteArray.append_assoc]

theorem IsErr.shape {c : Int} {s : ByteArray} {ev : Value} {w : World} (h : IsErr c s ev w) : ∃ u x, ev = .iface u x := by
  rcases h with ⟨rfl, _⟩ | ⟨b, rfl, _⟩ <;> exact ⟨_, _, rfl⟩

theorem tried (c : Int) (s t : ByteArray) (u : TypeId) (x : Value) (wr : World) (he : IsErr c t (.iface u x) wr) (hs : s.size + t.size ≤ 1000000) :
    Calls Try.prog 9 #[.func (.func 23) #[] #[.pointer (some ⟨wr.heap.size, 0, none⟩), .pointer (some ⟨wr.heap.size + 1, 0, none⟩)]] ((wr.alloc (.cells #[.string s] 9)).alloc (.cells #[.iface u x] 32)) fun e w' =>
      (∃ b, e = .returned (.iface 42 (.pointer (some ⟨b, 0, none⟩))) ∧ wr.heap.size + 2 ≤ b ∧ b < w'.heap.size ∧ w'.cell? ⟨b, 0, none⟩ = some (.int .i64 c) ∧ w'.cell? ⟨b, 1, none⟩ = some (.string (inside s t))) ∧
      Below wr.heap.size wr w' ∧ w'.cell? ⟨wr.heap.size, 0, none⟩ = some (.string s) ∧ w'.frozen? ⟨wr.heap.size, 0, none⟩ = false := by
  have hz : ((wr.alloc (.cells #[.string s] 9)).alloc (.cells #[.iface u x] 32)).heap.size = wr.heap.size + 2 := by simp
  have hbz : Below wr.heap.size wr ((wr.alloc (.cells #[.string s] 9)).alloc (.cells #[.iface u x] 32)) := ((Below.refl _ _).alloc (Nat.le_refl _) _).alloc (by simp) _
  have k1 : ((wr.alloc (.cells #[.string s] 9)).alloc (.cells #[.iface u x] 32)).cell? ⟨wr.heap.size, 0, none⟩ = some (.string s) := by simp [go_sem]
  have k2 : ((wr.alloc (.cells #[.string s] 9)).alloc (.cells #[.iface u x] 32)).cell? ⟨wr.heap.size + 1, 0, none⟩ = some (.iface u x) := by simp [go_sem]
  have k3 : ((wr.alloc (.cells #[.string s] 9)).alloc (.cells #[.iface u x] 32)).frozen? ⟨wr.heap.size, 0, none⟩ = false := by simp [go_sem]
  generalize (wr.alloc (.cells #[.string s] 9)).alloc (.cells #[.iface u x] 32) = W at hz hbz k1 k2 k3 ⊢
  have hp := below_pre2 W
  have hpz := pre2_size W
  refine (try_threw 23 #[] _ W c (inside s t) (fun _ _ => rfl) ?_).mono ?_
  · have := c23 wr.heap.size (wr.heap.size + 1) c s t (.iface u x) (pre2 W) (by rw [hp.cell (by show wr.heap.size < _; omega)]; exact k1) (by rw [hp.cell (by show wr.heap.size + 1 < _; omega)]; exact k2) (by omega) ((he.later hbz).later hp) hs
    rw [pre2_size] at this
    exact this
  · rintro e w' ⟨⟨b, rfl, h1, h2, h3, h4⟩, hb⟩
    exact ⟨⟨b, rfl, by omega, h2, h3, h4⟩, hbz.trans (hb.mono (by omega)), by rw [hb.cell (by show wr.heap.size < _; omega)]; exact k1, by rw [hb.frozen (by show wr.heap.size < _; omega)]; exact k3⟩

set_option maxHeartbeats 1000000 in
theorem throws_long (c : Int) (a : Option Addr) (len cap : Nat) (w : World) (h20 : (20 : Int) < (len : Int)) :
    Calls Try.prog 6 #[.int .i64 c, .slice a len cap] w fun e w' => e = .returned (.bool true) ∧ Below w.heap.size w w' := by
  go_enter Try.func6, Try.ntmps6
  go_wp2_with fail
  refine (alive_true _).mono ?_
  rintro e w1 ⟨rfl, hbl⟩
  have HB := Lib.hid hbl
  clear hbl
  go_wp2_with fail
  go_ret
  exact ⟨rfl, HB.out⟩

set_option maxHeartbeats 1000000 in
theorem throws_zero (a : Option Addr) (len cap : Nat) (w : World) (h20 : (len : Int) ≤ 20) :
    Calls Try.prog 6 #[.int .i64 0, .slice a len cap] w fun e w' => e = .returned (.bool true) ∧ Below w.heap.size w w' := by
  go_enter Try.func6, Try.ntmps6
  go_wp2_with fail
  refine (alive_true _).mono ?_
  rintro e w1 ⟨rfl, hbl⟩
  have HB := Lib.hid hbl
  clear hbl
  go_wp2_with fail
  go_ret
  exact ⟨rfl, HB.out⟩

set_option maxHeartbeats 1000000 in
theorem throws_any (c : Int) (b off len cap : Nat) (ss : List ByteArray) (w : World) (hb : b < w.heap.size) (hl : len ≤ ss.length) (h20 : (len : Int) ≤ 20) (hc0 : (c == 0) = false)
    (hcell : ∀ i, i < ss.length → w.cell? ⟨b, off + i, none⟩ = some (.string (ss.getD i ByteArray.empty))) :
    Calls Try.prog 6 #[.int .i64 c, .slice (some ⟨b, off, none⟩) len cap] w fun e w' => e = .returned (.bool true) ∧ Below w.heap.size w w' := by
  have hmf : ∀ (fn : Fn) (first cap : Array Value) (w : World), (Instr.makeFunc fn first cap).run Try.prog w = .ok (.func fn first cap) w := fun _ _ _ _ => rfl
  have HC := Lib.hid hcell
  have hd20 : decide ((20 : Int) < (len : Int)) = false := by simpa using h20
  clear hcell
  go_enter Try.func6, Try.ntmps6
  go_wp2_with fail
  refine (alive_true _).mono ?_
  rintro e w1 ⟨rfl, hbl⟩
  have HB := Lib.hid hbl
  clear hbl
  go_wp2_with fail
  go_loopw [5, 6, 23] (fun want e i wr => ∃ j : Nat, j ≤ len ∧ i = .int .i64 j ∧ ∃ t, want = .string t ∧ t.size ≤ 41 * j ∧ IsErr c t e wr ∧ Below w.heap.size w wr) (fun _ _ i _ => len - (intOf i).toNat)
  case atStart => exact ⟨0, by omega, rfl, _, rfl, by decide, .inl ⟨rfl, rfl⟩, HB.out⟩
  case round =>
    obtain ⟨j, hj, rfl, t, rfl, ht, he, hbr⟩ := hrel
    clear HB
    by_cases hlt : j < len
    · have hcj : wr.cell? ⟨b, off + j, none⟩ = some (.string (ss.getD j ByteArray.empty)) := by rw [hbr.cell hb]; exact HC.out j (by omega)
      generalize ss.getD j ByteArray.empty = s at hcj
      have HE := Lib.hid he
      have HBR := Lib.hid hbr
      clear he hbr
      by_cases h40 : (40 : Int) < (s.size : Int)
      · go_wp2_with fail
        go_ret
        exact ⟨rfl, HBR.out.alloc (HBR.out.size) _⟩
      · obtain ⟨u, x, rfl⟩ := HE.out.shape
        go_wp2_with fail
        refine (tried c s t u x wr HE.out (by omega)).mono ?_
        rintro e w' ⟨⟨b', rfl, hb1, hb2, hc1, hc2⟩, hbl, k1, k2⟩
        have HBL := Lib.hid (HBR.out.trans (hbl.mono HBR.out.size))
        clear hbl HE hcj
        cases hte : t.toList.isEmpty
        · have hin : inside s t = s ++ (⟨#[46]⟩ ++ t) := by rw [inside_eq, hte]; rfl
          rw [hin] at hc2
          clear hin
          go_wp2_with fail
          have e1 : (w'.setCell ⟨wr.heap.size, 0, none⟩ (.string (s ++ (⟨#[46]⟩ ++ t)))).cell? ⟨b', 0, none⟩ = some (.int .i64 c) := by
            rw [World.cell?_setCell_other _ _ _ _ (by intro e; have := congrArg Addr.block e; simp at this; omega)]; exact hc1
          have e2 : (w'.setCell ⟨wr.heap.size, 0, none⟩ (.string (s ++ (⟨#[46]⟩ ++ t)))).cell? ⟨b', 1, none⟩ = some (.string (s ++ (⟨#[46]⟩ ++ t))) := by
            rw [World.cell?_setCell_other _ _ _ _ (by intro e; have := congrArg Addr.block e; simp at this; omega)]; exact hc2
          have e3 : b' < (w'.setCell ⟨wr.heap.size, 0, none⟩ (.string (s ++ (⟨#[46]⟩ ++ t)))).heap.size := by simpa [World.setCell] using hb2
          have e4 := Lib.hid (HBL.out.setCell (p := ⟨wr.heap.size, 0, none⟩) HBR.out.size (.string (s ++ (⟨#[46]⟩ ++ t))))
          have e5 : (s ++ (⟨#[46]⟩ ++ t)).size ≤ 41 * (j + 1) := by
            have : (⟨#[46]⟩ : ByteArray).size = 1 := rfl
            simp only [ByteArray.size_append]; omega
          clear k1 k2 hc1 hc2 hb2
          generalize w'.setCell ⟨wr.heap.size, 0, none⟩ (.string (s ++ (⟨#[46]⟩ ++ t))) = w2 at e1 e2 e3 e4 ⊢
          refine (code_fault b' 0 c w2 e1).mono ?_
          rintro e w' ⟨rfl, rfl⟩
          go_wp2_with fail
          refine (where_fault b' 0 _ _ e2).mono ?_
          rintro e w' ⟨rfl, rfl⟩
          go_wp2_with fail
          go_roundw
          case rel => exact ⟨j + 1, by omega, by go_num, _, rfl, e5, .inr ⟨b', rfl, e3, e1, e2⟩, e4.out⟩
          case measure => simp [intOf]; omega
        · have hin : inside s t = s := by rw [inside_eq, hte]; rfl
          rw [hin] at hc2
          clear hin
          go_wp2_with fail
          refine (code_fault b' 0 c w' hc1).mono ?_
          rintro e w' ⟨rfl, rfl⟩
          go_wp2_with fail
          refine (where_fault b' 0 _ _ hc2).mono ?_
          rintro e w' ⟨rfl, rfl⟩
          go_wp2_with fail
          go_roundw
          case rel => exact ⟨j + 1, by omega, by go_num, _, rfl, by omega, .inr ⟨b', rfl, hb2, hc1, hc2⟩, HBL.out⟩
          case measure => simp [intOf]; omega
    · have HBR := Lib.hid hbr
      clear he hbr
      go_wp2_with fail
      refine (try_ended 26 #[] #[] wr (fun _ _ => rfl) ?_).mono ?_
      · have := c26 (pre2 wr)
        rw [pre2_size] at this
        exact this
      rintro e w' ⟨rfl, hb2⟩
      have HB2 := Lib.hid hb2
      clear hb2
      go_wp2_with fail
      go_ret
      exact ⟨rfl, HBR.out.trans (HB2.out.mono HBR.out.size)⟩

set_option maxHeartbeats 1000000 in
theorem throws_nil (c : Int) (a : Option Addr) (cap : Nat) (w : World) (hc0 : (c == 0) = false) :
    Calls Try.prog 6 #[.int .i64 c, .slice a 0 cap] w fun e w' => e = .returned (.bool true) ∧ Below w.heap.size w w' := by
  go_enter Try.func6, Try.ntmps6
  go_wp2_with fail
  refine (alive_true _).mono ?_
  rintro e w1 ⟨rfl, hbl⟩
  have HB := Lib.hid hbl
  clear hbl
  go_wp2_with fail
  go_loopw [23] (fun i wr => i = .int .i64 0 ∧ wr = w1) (fun _ _ => 0)
  case atStart => exact ⟨rfl, rfl⟩
  case round =>
    obtain ⟨rfl, rfl⟩ := hrel
    go_wp2_with fail
    refine (try_ended 26 #[] #[] _ (fun _ _ => rfl) ?_).mono ?_
    · have := c26 (pre2 wr)
      rw [pre2_size] at this
      exact this
    rintro e w' ⟨rfl, hb2⟩
    have HB2 := Lib.hid hb2
    clear hb2
    go_wp2_with fail
    go_ret
    exact ⟨rfl, HB.out.trans (HB2.out.mono HB.out.size)⟩

end Go.Proofs.Ytlecghbhoecedaa
