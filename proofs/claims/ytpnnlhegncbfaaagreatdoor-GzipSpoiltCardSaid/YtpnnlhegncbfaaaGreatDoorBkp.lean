
/- Unpacking takes back a block of kind 0. -/
import Derived.Test.YtpnnlhegncbfaaaGreatDoorGroupH
import Derived.Test.YtpnnlhegncbfaaaGreatDoorPlb
namespace Go.Proofs.YtpnnlhegncbfaaaGreatDoor
set_option maxRecDepth 20000

theorem infl_one (x : List UInt8) (hx : x.length < 65536) (F lim : Nat) (hF : 1 ≤ F) (hl : x.length ≤ lim) :
    inflF F (bitsL (plainT x)) lim = .ok ((), ⟨8 * (plainT x).length, x, 1 + x.length⟩) := by
  have e1 := block_blk (l := blk 1 x) (q := 0) (i := 1) (x := x) (r := []) (by simp) (by decide) hx F lim [] 0
  rw [if_neg (by simp; omega)] at e1
  have hb : plainT x = blk 1 x := rfl
  rw [hb, blk_length]
  obtain ⟨k, rfl⟩ : ∃ k, F = k + 1 := ⟨F - 1, by omega⟩
  unfold inflF
  show bindX (blockX (k + 1)) _ _ lim ⟨8 * 0, [], 0⟩ = _
  unfold bindX
  rw [e1]
  simp [pureX]
  omega
end Go.Proofs.YtpnnlhegncbfaaaGreatDoor
