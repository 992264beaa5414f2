
/- Contracts of document and of crossdocknum's Bytes. -/
import Derived.Test.YtpnnlhegncbfaaaDoorGroupT
namespace Go.Proofs.YtpnnlhegncbfaaaDoor
set_option maxRecDepth 20000
open Go.RowKit

theorem bytes_same (A B : Option Addr) (n c d : Nat) (l : List UInt8) (w : World) (hA : Rd w w.heap.size A n (us l)) (hB : Rd w w.heap.size B n (us l)) :
    Calls Tryd.prog 8 #[.slice A n c, .slice B n d] w fun e w' => e = .returned (.bool true) ∧ w' = w := by
  have h1 := str8 w _ A n c l hA
  have h2 := str8 w _ B n d l hB
  clear hA hB
  go_enter Tryd.func8, Tryd.ntmps8
  go_wp2_with fail
  go_ret
  exact ⟨rfl, rfl⟩
/-- What document's loop keeps. -/
structure DI (w wr : World) (u : Value) (l : List Tk) : Prop where
  own : OwnT 105 wr w.heap.size u l
  below : Below w.heap.size w wr
theorem DI.grown {w wr w' : World} {u : Value} {l : List Tk} (h : DI w wr u l) (hg : wr.grownBy w' none) : DI w w' u l :=
  ⟨World.ownsRow.kept h.own hg (ne_noneT u), h.below.trans ((below_make hg).mono h.below.size)⟩
theorem DI.push {w wr w' : World} {u u' : Value} {l l' : List Tk} (h : DI w wr u l) (ho : OwnT 105 w' w.heap.size u' l') (hg : wr.grownBy w' u.ownBlock) : DI w w' u' l' :=
  ⟨ho, h.below.grown hg h.below.size (fun k hk => (World.ownsRow.lt h.own k hk).1)⟩
end Go.Proofs.YtpnnlhegncbfaaaDoor
