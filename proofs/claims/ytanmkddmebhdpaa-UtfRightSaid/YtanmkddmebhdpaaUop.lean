/- What the program's row asks besides. -/
import Derived.Test.YtanmkddmebhdpaaRows
import Derived.ProofKit
namespace Go.Proofs.Ytanmkddmebhdpaa

theorem ownT : ownKnob Try.prog.godebug = none := by kernel_rfl
theorem laidOutT : laidOutB Try.prog = true := by kernel_rfl
end Go.Proofs.Ytanmkddmebhdpaa
