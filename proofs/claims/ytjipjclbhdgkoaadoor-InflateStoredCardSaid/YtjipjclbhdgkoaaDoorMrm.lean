/- Contract of the machine's room; what a step comes to, one way at a time. -/
import Derived.Test.YtjipjclbhdgkoaaDoorMnu
namespace Go.Proofs.YtjipjclbhdgkoaaDoor
open Go.RowKit

variable {g r H : Nat} {A : Option Addr} {n c : Nat} {l : List UInt8} {lim : Nat} {v : Value} {s : Sx}
/-- Is there room for k bytes more? -/
def roomX (k : Nat) : X Unit := fun _ lim s => if lim < s.out.length + k then .error 3 else .ok ((), s)
theorem wrap64_in (z : Int) (h0 : -9223372036854775808 ≤ z) (h1 : z ≤ 9223372036854775807) : IntKind.i64.wrap z = z := by rw [IntKind.wrap_i64]; omega
theorem drew_grown (w : World) : w.grownBy w.drew none := grown_drewN w 1

set_option maxHeartbeats 1000000 in
set_option maxRecDepth 20000 in
theorem room_any (k : Nat) (hk : k ≤ 1000000) (w : World) (hm : MS w g r H A n c l lim v s) :
    Calls Tryd.prog 50 #[.pointer (some ⟨g, 0, none⟩), .int .i64 (k : Int)] w (Out w g r H A n c l lim v (roomX k (bitsL l) lim s) unit) := by
  obtain ⟨A1, c1, hv⟩ := hm.own.slice
  have c2 := hm.cell2
  have cv := hm.cell1
  have hlm := hm.lm
  have hol := hm.ol
  have HM := Lib.hid hm
  rw [hv] at cv
  clear hm hv
  unfold roomX
  obtain ⟨q, hq⟩ : ∃ q, s.out.length = q := ⟨_, rfl⟩
  rw [hq] at cv hol ⊢
  clear hq
  by_cases h : lim < q + k
  · rw [if_pos h]
    have HD : RowKit.Hid (decide ((k : Int) ≤ RowKit.wrap64 ((lim : Int) - (q : Int))) = false) := Lib.hid (decide_eq_false (by unfold RowKit.wrap64; omega))
    clear h hlm hol
    go_enter Tryd.func50, Tryd.ntmps50
    go_still_tail 12, (by kernel_rfl)
    change wpList _ _ _ _ _ w.drew
    have HG1 := Lib.hid (Moves.grown (g := g) (r := r) v (drew_grown w) (.inl rfl))
    generalize w.drew = w2 at HG1 ⊢
    go_wp2_with fail
    refine (gmust_no 3 _ w2 _ HD.out).mono ?_
    rintro e w1 ⟨rfl, rfl⟩
    exact ⟨rfl, Out.thrown rfl HG1.out 3 rfl⟩
  · rw [if_neg h]
    have HD : RowKit.Hid (decide ((k : Int) ≤ RowKit.wrap64 ((lim : Int) - (q : Int))) = true) := Lib.hid (decide_eq_true (by unfold RowKit.wrap64; omega))
    clear h hlm hol
    go_enter Tryd.func50, Tryd.ntmps50
    go_still_tail 12, (by kernel_rfl)
    change wpList _ _ _ _ _ w.drew
    have HG1 := Lib.hid (Moves.grown (g := g) (r := r) v (drew_grown w) (.inl rfl))
    have HM1 := Lib.hid (HM.out.still (drew_grown w))
    generalize w.drew = w2 at HG1 HM1 ⊢
    go_wp2_with fail
    refine (gmust_ok 3 _ w2 _ HD.out).mono ?_
    rintro e w1 ⟨rfl, rfl⟩
    go_wp2_with fail
    go_end0
    exact .inl ⟨(), s, v, rfl, HM1.out, HG1.out, rfl⟩
theorem Out.ok {α : Type} {w w' : World} {x : Except Nat (α × Sx)} {P : α → Ending → World → Value → Prop} {e : Ending} {a : α} {s' : Sx} (h : Out w g r H A n c l lim v x P e w') (hx : x = .ok (a, s')) :
    ∃ v', MS w' g r H A n c l lim v' s' ∧ Moves w w' g r v v' ∧ P a e w' v' := by
  rcases h with ⟨a1, s1, v1, h1, h2, h3, h4⟩ | ⟨k, b, v1, h1, _⟩
  · rw [hx] at h1; injection h1 with h1; injection h1 with h5 h6; subst h5 h6; exact ⟨v1, h2, h3, h4⟩
  · rw [hx] at h1; cases h1
theorem Out.no {α : Type} {w w' : World} {x : Except Nat (α × Sx)} {P : α → Ending → World → Value → Prop} {e : Ending} {k : Nat} (h : Out w g r H A n c l lim v x P e w') (hx : x = .error k) :
    ∃ b v', e = .panicked (flt ⟨b, 0, none⟩) ∧ w.heap.size ≤ b ∧ w'.cell? ⟨b, 0, none⟩ = some (.int .i64 (k : Int)) ∧ Moves w w' g r v v' := by
  rcases h with ⟨a1, s1, v1, h1, _⟩ | ⟨k1, b, v1, h1, h2, h3, h4, h5⟩
  · rw [hx] at h1; cases h1
  · rw [hx] at h1; injection h1 with h1; subst h1; exact ⟨b, v1, h2, h3, h4, h5⟩
end Go.Proofs.YtjipjclbhdgkoaaDoor
