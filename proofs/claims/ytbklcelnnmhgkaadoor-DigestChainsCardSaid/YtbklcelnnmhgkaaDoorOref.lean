/- The digest that the program comes to is the reference's. -/
import Derived.Test.YtbklcelnnmhgkaaDoorRof
import Derived.Test.YtbklcelnnmhgkaaDoorEq
import Derived.Test.YtbklcelnnmhgkaaDoorOf
namespace Go.Proofs.YtbklcelnnmhgkaaDoor
open Go.RowKit

theorem fill_total (n : Nat) : (n + (fillP n).length) % 64 = 0 := by
  unfold fillP
  rw [List.length_append, List.length_cons, List.length_replicate, tail8_length]
  have := gap_done n
  omega
theorem of_ref (l : List UInt8) : ofP l = refP l := by
  have hn : (puts H0 l).n = l.length := by rw [puts_n]; show 0 + _ = _; omega
  have h1 : ofP l = outL (puts H0 (l ++ fillP l.length)).st := by
    unfold ofP sumP
    rw [hn, puts_append]
  obtain ⟨T, hT⟩ : ∃ T, l ++ fillP l.length = T := ⟨_, rfl⟩
  have h64 : T.length % 64 = 0 := by rw [← hT, List.length_append]; exact fill_total l.length
  obtain ⟨nb, hnb⟩ : ∃ nb, T.length = 64 * nb := ⟨T.length / 64, by omega⟩
  obtain ⟨blk, _, he⟩ := puts_blocks T nb hnb nb (Nat.le_refl _)
  rw [List.take_of_length_le (by omega)] at he
  rw [h1, hT, he]
  unfold refP
  rw [hT, hnb, Nat.mul_div_cancel_left nb (by decide)]
  rfl

end Go.Proofs.YtbklcelnnmhgkaaDoor
