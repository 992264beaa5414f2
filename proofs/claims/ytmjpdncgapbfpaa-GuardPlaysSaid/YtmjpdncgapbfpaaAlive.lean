/- The laws' fixed fact ('alive') answers true, and turns nothing old. -/
import Derived.Test.YtmjpdncgapbfpaaTry
namespace Go.Proofs.Ytmjpdncgapbfpaa
open Go.RowKit

def Threw (c : Int) (s : ByteArray) (n : Nat) (e : Ending) (w' : World) : Prop :=
  ∃ b, e = .panicked (flt ⟨b, 0, none⟩) ∧ n ≤ b ∧ b < w'.heap.size ∧ w'.cell? ⟨b, 0, none⟩ = some (.int .i64 c) ∧ w'.cell? ⟨b, 1, none⟩ = some (.string s)

def Caught (c : Int) (s : ByteArray) (n : Nat) (e : Ending) (w' : World) : Prop :=
  ∃ b, e = .returned (.iface 42 (.pointer (some ⟨b, 0, none⟩))) ∧ n ≤ b ∧ b < w'.heap.size ∧ w'.cell? ⟨b, 0, none⟩ = some (.int .i64 c) ∧ w'.cell? ⟨b, 1, none⟩ = some (.string s)

abbrev pre2 (w : World) : World := (w.alloc (.cells #[.pointer none] 42)).alloc (.cells #[.bool false] 4)

theorem pre2_size (w : World) : (pre2 w).heap.size = w.heap.size + 2 := by simp [pre2]

theorem two_of_below {w w1 : World} (h : Below (w.heap.size + 2) (pre2 w) w1) : Two w.heap.size w1 := by
  refine ⟨⟨.pointer none, ?_⟩, ?_, ⟨.bool false, ?_⟩, ?_⟩
  · rw [h.cell (by show w.heap.size < _; omega)]; simp [pre2, go_sem]
  · rw [h.frozen (by show w.heap.size < _; omega)]; simp [pre2, go_sem]
  · rw [h.cell (by show w.heap.size + 1 < _; omega)]; simp [pre2, go_sem]
  · rw [h.frozen (by show w.heap.size + 1 < _; omega)]; simp [pre2, go_sem]

theorem below_pre2 (w : World) : Below w.heap.size w (pre2 w) := ((Below.refl _ _).alloc (Nat.le_refl _) _).alloc (by simp) _

theorem below_fin2 {B : Nat} {w w1 : World} (h : Below B w w1) (n : Nat) (hn : B ≤ n) (a : Value) (b : Bool) : Below B w (fin2 n w1 a b) :=
  (h.setCell (p := ⟨n, 0, none⟩) hn _).setCell (p := ⟨n + 1, 0, none⟩) (by show B ≤ n + 1; omega) _

theorem cell_fin2 {n b o : Nat} {w : World} {x : Value} {y : Bool} (h1 : b ≠ n) (h2 : b ≠ n + 1) : (fin2 n w x y).cell? ⟨b, o, none⟩ = w.cell? ⟨b, o, none⟩ := by
  unfold fin2
  rw [World.cell?_setCell_other _ _ _ _ (by intro e; cases e <;> omega), World.cell?_setCell_other _ _ _ _ (by intro e; cases e <;> omega)]

theorem size_fin2 {n : Nat} {w : World} {x : Value} {y : Bool} : (fin2 n w x y).heap.size = w.heap.size := by simp [fin2, World.setCell]

theorem in_threw (t : ByteArray) (k : Nat) (first cap : Array Value) (w : World) (c : Int) (s : ByteArray) (hs : t.size + s.size ≤ 1000000)
    (hcf : ∀ (a : Array Value) (w : World), (callFunc k a).run Try.prog w = .ok (.enter k a) w)
    (hcall : Calls Try.prog k (first ++ cap) (pre2 w) fun e w' => Threw c s (w.heap.size + 2) e w' ∧ Below (w.heap.size + 2) (pre2 w) w') :
    Calls Try.prog 19 #[.string t, .func (.func k) first cap] w fun e w' => Threw c (inside t s) w.heap.size e w' ∧ Below w.heap.size w w' := by
  refine in_cps t k first cap w _ _ hcf hcall ?_
  rintro e w1 ⟨⟨b, rfl, hb1, hb2, hc1, hc2⟩, hb⟩
  refine ⟨two_of_below hb, .inr (.inl ⟨b, 0, c, s, [], rfl, rfl, by omega, by omega, hc1, hc2, hs, ⟨_, rfl, ?_, ?_, ?_, ?_⟩, ?_⟩)⟩
  · omega
  · simp [size_fin2]
  · rw [← size_fin2 (n := w.heap.size) (w := w1) (x := .pointer (some ⟨b, 0, none⟩)) (y := true)]; simp [go_sem]
  · rw [← size_fin2 (n := w.heap.size) (w := w1) (x := .pointer (some ⟨b, 0, none⟩)) (y := true)]; simp [go_sem]
  · have hsz := hb.size
    rw [pre2_size] at hsz
    exact (below_fin2 ((below_pre2 w).trans (hb.mono (by omega))) _ (Nat.le_refl _) _ _).alloc (by rw [size_fin2]; omega) _

theorem try_threw (k : Nat) (first cap : Array Value) (w : World) (c : Int) (s : ByteArray)
    (hcf : ∀ (a : Array Value) (w : World), (callFunc k a).run Try.prog w = .ok (.enter k a) w)
    (hcall : Calls Try.prog k (first ++ cap) (pre2 w) fun e w' => Threw c s (w.heap.size + 2) e w' ∧ Below (w.heap.size + 2) (pre2 w) w') :
    Calls Try.prog 9 #[.func (.func k) first cap] w fun e w' => Caught c s w.heap.size e w' ∧ Below w.heap.size w w' := by
  refine try_cps k first cap w _ _ hcf hcall ?_
  rintro e w1 ⟨⟨b, rfl, hb1, hb2, hc1, hc2⟩, hb⟩
  refine ⟨two_of_below hb, .inr (.inl ⟨_, [], rfl, rfl, ⟨b, rfl, ?_, ?_, ?_, ?_⟩, ?_⟩)⟩
  · omega
  · rw [size_fin2]; exact hb2
  · rw [cell_fin2 (by omega) (by omega)]; exact hc1
  · rw [cell_fin2 (by omega) (by omega)]; exact hc2
  · exact below_fin2 ((below_pre2 w).trans (hb.mono (by omega))) _ (Nat.le_refl _) _ _

theorem try_ended (k : Nat) (first cap : Array Value) (w : World)
    (hcf : ∀ (a : Array Value) (w : World), (callFunc k a).run Try.prog w = .ok (.enter k a) w)
    (hcall : Calls Try.prog k (first ++ cap) (pre2 w) fun e w' => e = .returned (.tuple #[]) ∧ Below (w.heap.size + 2) (pre2 w) w') :
    Calls Try.prog 9 #[.func (.func k) first cap] w fun e w' => e = .returned .nilIface ∧ Below w.heap.size w w' := by
  refine try_cps k first cap w _ _ hcf hcall ?_
  rintro e w1 ⟨rfl, hb⟩
  exact ⟨two_of_below hb, .inl ⟨_, rfl, rfl, below_fin2 ((below_pre2 w).trans (hb.mono (by omega))) _ (Nat.le_refl _) _ _⟩⟩

theorem threw_new (c : Int) (s : ByteArray) (w : World) : Threw c s w.heap.size (.panicked (flt ⟨w.heap.size, 0, none⟩)) (w.alloc (.cells #[.int .i64 c, .string s] 45)) :=
  ⟨_, rfl, Nat.le_refl _, by simp, by simp [go_sem], by simp [go_sem]⟩

def ta : ByteArray := ⟨#[97]⟩
def tb : ByteArray := ⟨#[98]⟩

set_option maxHeartbeats 400000 in
theorem a28 (w : World) : Calls Try.prog 28 #[] w fun e w' => Threw 2 ta w.heap.size e w' ∧ Below w.heap.size w w' := by
  go_enter Try.func28, Try.ntmps28
  go_wp2_with fail
  refine (throw_any 2 ta w).mono ?_
  rintro e w' ⟨rfl, rfl⟩
  exact ⟨rfl, threw_new _ _ _, (Below.refl _ _).alloc (Nat.le_refl _) _⟩

set_option maxHeartbeats 400000 in
theorem a27 (w : World) : Calls Try.prog 27 #[] w fun e w' => Threw 2 (inside tb ta) w.heap.size e w' ∧ Below w.heap.size w w' := by
  go_enter Try.func27, Try.ntmps27
  go_wp2_with fail
  refine (in_threw tb 28 #[] #[] w 2 ta (by decide) (fun _ _ => rfl) ?_).mono ?_
  · have := a28 (pre2 w)
    rw [pre2_size] at this
    exact this
  rintro e w' ⟨⟨b, rfl, h⟩, hb⟩
  exact ⟨rfl, ⟨b, rfl, h⟩, hb⟩

theorem cba : inside tb ta = ⟨#[98, 46, 97]⟩ := by decide +kernel

set_option maxHeartbeats 400000 in
theorem alive_true (w : World) : Calls Try.prog 7 #[] w fun e w' => e = .returned (.bool true) ∧ Below w.heap.size w w' := by
  go_enter Try.func7, Try.ntmps7
  go_wp2_with fail
  refine (try_threw 27 #[] #[] w 2 (inside tb ta) (fun _ _ => rfl) ?_).mono ?_
  · have := a27 (pre2 w)
    rw [pre2_size] at this
    exact this
  rintro e w' ⟨⟨b, rfl, h1, h2, h3, h4⟩, hb⟩
  rw [cba] at h4
  have HB := Lib.hid hb
  clear hb
  go_wp2_with fail
  refine (code_fault b 0 2 w' h3).mono ?_
  rintro e w' ⟨rfl, rfl⟩
  go_wp2_with fail
  refine (where_fault b 0 _ _ h4).mono ?_
  rintro e w' ⟨rfl, rfl⟩
  go_wp2_with fail
  go_ret
  exact ⟨rfl, HB.out⟩

end Go.Proofs.Ytmjpdncgapbfpaa
