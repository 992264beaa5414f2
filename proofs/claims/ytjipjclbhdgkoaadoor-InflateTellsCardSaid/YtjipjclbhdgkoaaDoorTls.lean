/- The law InflateTells, with the contract of the reference's told at hand. -/
import Derived.Test.YtjipjclbhdgkoaaDoorTel
import Derived.Test.YtjipjclbhdgkoaaDoorRto
namespace Go.Proofs.YtjipjclbhdgkoaaDoor
open Go.RowKit
theorem tells_any (A : Option Addr) (n c : Nat) (l : List UInt8) (x : Int) (w : World) (hr : Rd w w.heap.size A n (us l)) (hA : A = none → c = 0) (ht : Tab w) (h0 : 0 < w.heap.size) :
    Calls Tryd.prog 3 #[.slice A n c, .int .i64 x] w fun e w' => e = .returned (.bool true) ∧ Below w.heap.size w w' :=
  tells_told rtold_any A n c l x w hr hA ht h0
end Go.Proofs.YtjipjclbhdgkoaaDoor
