
/- Which lengths New takes, by 'right'. Made ahead of the layer that will need it. -/
import Derived.Test.YtjipjclbhdgkoaaDoorInfT
import Derived.Test.YtjipjclbhdgkoaaDoorNew
namespace Go.Proofs.YtjipjclbhdgkoaaDoor

theorem newE_right {L : List Int} (lone : Bool) (h1 : L.length ≤ 320) (h2 : rng L) : newE L lone = 0 ↔ right (nats L) lone = true := by
  unfold newE right
  rw [if_neg (by omega), if_neg (not_not_intro h2), decide_eq_true_iff]
  by_cases h3 : okF (cnt (nats L))
  · rw [if_neg (not_not_intro h3)]
    by_cases h4 : fst (cnt (nats L)) 16 = 65536 ∨ (lone = true ∧ loneF (cnt (nats L)))
    · rw [if_pos h4]; exact ⟨fun _ => ⟨h3, h4⟩, fun _ => rfl⟩
    · rw [if_neg h4]; exact ⟨fun h => by omega, fun h => absurd h.2 h4⟩
  · rw [if_pos h3]; exact ⟨fun h => by omega, fun h => absurd h.1 h3⟩
end Go.Proofs.YtjipjclbhdgkoaaDoor
