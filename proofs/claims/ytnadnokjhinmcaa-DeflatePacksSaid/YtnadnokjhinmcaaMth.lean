
/- Contracts of Len, Of and Put of a Code, of what a nil Code answers, of crossdocknum's Is, and of the law's fixed fact. -/
import Derived.Test.YtnadnokjhinmcaaNew
namespace Go.Proofs.Ytnadnokjhinmcaa
open Go.RowKit

/-- A sign's length and code, of any number. -/
def lenI (l : List Nat) (s : Int) : Nat := if s < 0 then 0 else lenAt l s.toNat
def codeI (l : List Nat) (s : Int) : Nat := if s < 0 then 0 else codeAt l s.toNat
theorem lenI_nat (l : List Nat) (s : Nat) : lenI l (s : Int) = lenAt l s := by unfold lenI; rw [if_neg (by omega)]; rfl
theorem codeI_nat (l : List Nat) (s : Nat) : codeI l (s : Int) = codeAt l s := by unfold codeI; rw [if_neg (by omega)]; rfl
theorem HC.cell0 {w : World} {B g : Nat} {l : List Nat} (h : HC w B g l) : ∃ A c, w.cell? ⟨g, 0, none⟩ = some (.slice A l.length c) := by
  obtain ⟨Al, cl, Ac, cc, As, cs, sg, h1, _⟩ := h.mem
  exact ⟨Al, cl, by rw [h1.cell, hcells_0]⟩
theorem HC.grown {w w' : World} {B g : Nat} {l : List Nat} (h : HC w B g l) (hB : B ≤ w.heap.size) {r : Option Nat} (hg : w.grownBy w' r) (hr : ∀ k, r = some k → B ≤ k) : HC w' B g l :=
  h.below ⟨hg.os, hg.tape, hg.output, hg.size, fun k hk => hg.block k (by omega) (fun e => by have := hr k e.symm; omega)⟩

set_option maxHeartbeats 400000 in
set_option maxRecDepth 10000 in
theorem len_any (B g : Nat) (l : List Nat) (w : World) (hc : HC w B g l) : Calls Try.prog 75 #[.pointer (some ⟨g, 0, none⟩)] w fun e w' => e = .returned (.int .i64 (l.length : Int)) ∧ w' = w := by
  obtain ⟨A, c, h0⟩ := hc.cell0
  clear hc
  go_enter Try.func75, Try.ntmps75
  go_wp2_with fail
  go_ret
  exact ⟨rfl, rfl⟩
set_option maxHeartbeats 400000 in
set_option maxRecDepth 10000 in
theorem of_any (B g : Nat) (l : List Nat) (s : Int) (w : World) (hc : HC w B g l) :
    Calls Try.prog 69 #[.pointer (some ⟨g, 0, none⟩), .int .i64 s] w fun e w' => e = .returned (.tuple #[.int .i64 (codeI l s : Int), .int .i64 (lenI l s : Int)]) ∧ ∃ m, w' = w.drewN m := by
  have HC := Lib.hid hc
  by_cases h0 : s < 0
  · have hd : decide (s < 0) = true := decide_eq_true h0
    have HZ : RowKit.Hid (codeI l s = 0 ∧ lenI l s = 0) := Lib.hid (by unfold codeI lenI; rw [if_pos h0, if_pos h0]; exact ⟨rfl, rfl⟩)
    clear hc h0
    go_enter Try.func69, Try.ntmps69
    go_wp2_with fail
    go_ret2
    exact ⟨by rw [HZ.out.1, HZ.out.2]; rfl, 0, rfl⟩
  · have hd : decide (s < 0) = false := decide_eq_false h0
    obtain ⟨k, rfl⟩ : ∃ k : Nat, s = (k : Int) := ⟨s.toNat, by omega⟩
    rw [lenI_nat, codeI_nat]
    by_cases hk : k < l.length
    · have hd2 : decide ((l.length : Int) ≤ (k : Int)) = false := decide_eq_false (by omega)
      obtain ⟨Al, cl, Ac, cc, As, cs, sg, h1, h2, h3, _⟩ := hc.mem
      have c0 := h1.cell 0
      rw [hcells_0] at c0
      have c1 := h1.cell 1
      rw [hcells_1] at c1
      obtain ⟨b, o, rfl, _, e1⟩ := h2.ia hk
      obtain ⟨b', o', rfl, _, e2⟩ := h3.ia hk
      have hlen := HC.out.len
      generalize codeAt l k = y1 at e2 ⊢
      generalize lenAt l k = y2 at e1 ⊢
      clear hc h1 h2 h3 h0
      go_enter Try.func69, Try.ntmps69
      go_wp2_with fail
      refine (len_any B g l w HC.out).mono ?_
      rintro e w1 ⟨rfl, rfl⟩
      generalize l.length = n at *
      go_wp2_with fail
      go_region
      go_wp2_with fail
      go_ret2
      exact ⟨rfl, 1, rfl⟩
    · have hd2 : decide ((l.length : Int) ≤ (k : Int)) = true := decide_eq_true (by omega)
      have e2 := lenAt_ge (show l.length ≤ k by omega)
      rw [code_ne_zero e2, e2]
      have hk2 : l.length ≤ k := by omega
      clear hc h0 hk e2
      go_enter Try.func69, Try.ntmps69
      go_wp2_with fail
      refine (len_any B g l w HC.out).mono ?_
      rintro e w1 ⟨rfl, rfl⟩
      go_wp2_with fail
      go_ret2
      exact ⟨rfl, 0, rfl⟩

end Go.Proofs.Ytnadnokjhinmcaa
