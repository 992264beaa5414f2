
/- Contracts of Len, Of and Put of a Code, of what a nil Code answers, of crossdocknum's Is, and of the law's fixed fact. -/
import Derived.Test.YtjipjclbhdgkoaaDoorNew
namespace Go.Proofs.YtjipjclbhdgkoaaDoor
open Go.RowKit

/-- A sign's length and code, of any number. -/
def lenI (l : List Nat) (s : Int) : Nat := if s < 0 then 0 else lenAt l s.toNat
def codeI (l : List Nat) (s : Int) : Nat := if s < 0 then 0 else codeAt l s.toNat
theorem lenI_nat (l : List Nat) (s : Nat) : lenI l (s : Int) = lenAt l s := by unfold lenI; rw [if_neg (by omega)]; rfl
theorem codeI_nat (l : List Nat) (s : Nat) : codeI l (s : Int) = codeAt l s := by unfold codeI; rw [if_neg (by omega)]; rfl
theorem HC.cell0 {w : World} {B g : Nat} {l : List Nat} (h : HC w B g l) : ∃ A c, w.cell? ⟨g, 0, none⟩ = some (.slice A l.length c) := by
  obtain ⟨Al, cl, Ac, cc, As, cs, sg, h1, _⟩ := h.mem
  exact ⟨Al, cl, by rw [h1.cell, hcells_0]⟩
theorem HC.grown {w w' : World} {B g : Nat} {l : List Nat} (h : HC w B g l) (hB : B ≤ w.heap.size) {r : Option Nat} (hg : w.grownBy w' r) (hr : ∀ k, r = some k → B ≤ k) : HC w' B g l :=
  h.below ⟨hg.os, hg.tape, hg.output, hg.size, fun k hk => hg.block k (by omega) (fun e => by have := hr k e.symm; omega)⟩

set_option maxHeartbeats 400000 in
theorem htake_nil (v : Value) (w : World) : Calls Tryd.prog 61 #[.pointer none, v] w fun e w' => e = .returned (.tuple #[.int .i64 0, errV 4]) ∧ w' = w := by
  go_enter Tryd.func61, Tryd.ntmps61
  go_wp2_with fail
  go_ret2
  exact ⟨rfl, rfl⟩
set_option maxHeartbeats 400000 in
theorem htake_none (g : Addr) (w : World) : Calls Tryd.prog 61 #[.pointer (some g), .pointer none] w fun e w' => e = .returned (.tuple #[.int .i64 0, errV 4]) ∧ w' = w := by
  go_enter Tryd.func61, Tryd.ntmps61
  go_wp2_with fail
  go_ret2
  exact ⟨rfl, rfl⟩
end Go.Proofs.YtjipjclbhdgkoaaDoor
