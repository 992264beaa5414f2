/- Contract of the reference's primes. -/
import Derived.Test.YtbklcelnnmhgkaaDoorCub
namespace Go.Proofs.YtbklcelnnmhgkaaDoor
open Go.RowKit

def zs (l : List Nat) : List Int := l.map fun (x : Nat) => (x : Int)
theorem zs_length (l : List Nat) : (zs l).length = l.length := by simp [zs]

theorem pr_succ (k : Nat) : pr (k + 1) = prStep k (pr k) := rfl
theorem pr_mono (k : Nat) : (pr k).length ≤ (pr (k + 1)).length := by
  rw [pr_succ]; unfold prStep; split
  · simp
  · exact Nat.le_refl _
theorem pr_le (j : Nat) : ∀ d, (pr j).length ≤ (pr (j + d)).length
  | 0 => Nat.le_refl _
  | d + 1 => Nat.le_trans (pr_le j d) (pr_mono (j + d))
theorem pr_len (k : Nat) : (pr k).length ≤ k := by
  induction k with
  | zero => exact Nat.le_refl _
  | succ k ih =>
    rw [pr_succ]; unfold prStep; split
    · rw [List.length_append, List.length_singleton]; omega
    · omega
theorem pr_pos (k : Nat) : ∀ p ∈ pr k, 0 < p ∧ p < 2 + k := by
  induction k with
  | zero => intro p hp; cases hp
  | succ k ih =>
    intro p hp
    rw [pr_succ] at hp
    unfold prStep at hp
    split at hp
    · rcases List.mem_append.1 hp with h | h
      · have := ih p h; omega
      · have : p = 2 + k := by simpa using h
        omega
    · have := ih p hp; omega

/-- What the loops keep: the row of primes so far. -/
structure QR (w : World) (v : Value) (l : List Nat) (wr : World) : Prop where
  own : OwnI wr w.heap.size v (zs l)
  below : Below w.heap.size w wr
  size : w.heap.size ≤ wr.heap.size

set_option maxHeartbeats 800000 in
theorem primes_any (w : World) : Calls Tryd.prog 27 #[.int .i64 64] w fun e w' => ∃ v, e = .returned v ∧ QR w v P64 w' := by
  go_enter Tryd.func27, Tryd.ntmps27
  go_wp2_with fail
  have hQ : QR w (.slice (some ⟨w.heap.size, 0, none⟩) 0 0) (pr 0) (w.alloc (.cells #[] 55)) := by
    refine ⟨?_, (Below.refl _ _).alloc (Nat.le_refl _) _, by simp⟩
    exact ⟨rfl, .inr ⟨w.heap.size, 0, #[], rfl, Nat.le_refl _, heap_alloc_new w _, Nat.le_refl _, by unfold maxLen; omega, rfl, rfl⟩⟩
  generalize w.alloc (.cells #[] 55) = w1 at hQ ⊢
  generalize Value.slice (some ⟨w.heap.size, 0, none⟩) 0 0 = v0 at hQ ⊢
  go_loopw [3, 4] (fun v m wr => ∃ k : Nat, k ≤ 310 ∧ m = .int .u64 ((2 + k : Nat) : Int) ∧ QR w v (pr k) wr) (fun _ m _ => 400 - (intOf m).toNat)
  case atStart => exact ⟨0, by omega, rfl, hQ⟩
  case round =>
    clear hQ
    obtain ⟨k, hk, rfl, hQ⟩ := hrel
    obtain ⟨A, c, rfl⟩ := hQ.own.slice
    rw [zs_length]
    obtain ⟨N, hN⟩ : ∃ N, 2 + k = N := ⟨_, rfl⟩
    rw [hN]
    by_cases hlen : (pr k).length < 64
    · have hk9 : k < 310 := by
        rcases Nat.lt_or_ge k 310 with h | h
        · exact h
        · have : k = 310 := by omega
          subst this
          rw [pr_all] at hlen
          exact absurd hlen (by decide)
      obtain ⟨m, hm⟩ : ∃ m, (pr k).length = m := ⟨_, rfl⟩
      rw [hm] at hlen ⊢
      have hd : decide ((m : Int) < 64) = true := decide_eq_true (by omega)
      have HQ := Lib.hid hQ
      have HM := Lib.hid hm
      have HN := Lib.hid hN
      clear hQ hm hN
      go_wp2_with fail
      go_loopw [5, 17] (fun ok i wr => ∃ j : Nat, j ≤ m ∧ ok = .bool true ∧ i = .int .i64 j ∧ (∀ p ∈ (pr k).take j, N % p ≠ 0) ∧ QR w (.slice A m c) (pr k) wr) (fun _ i _ => m - (intOf i).toNat)
      case atStart => exact ⟨0, by omega, rfl, rfl, by simp, by have := HQ.out; rwa [zs_length, HM.out] at this⟩
      case round =>
        clear HQ
        obtain ⟨j, hj, rfl, rfl, hall, hQ⟩ := hrel
        have HALL := Lib.hid hall
        clear hall
        by_cases hjm : j < m
        · have hdj : decide ((j : Int) < (m : Int)) = true := decide_eq_true (by omega)
          have hlk : j < (zs (pr k)).length := by rw [zs_length, HM.out]; exact hjm
          obtain ⟨g, c2, x, hv, hx, hc⟩ := hQ.own.at64 hlk
          have hjl : j < (pr k).length := by rw [HM.out]; exact hjm
          obtain ⟨p, hp⟩ : ∃ p, (pr k)[j]'hjl = p := ⟨_, rfl⟩
          have hpk : (pr k)[j]? = some p := by rw [List.getElem?_eq_getElem hjl, hp]
          have hxp : x = (p : Int) := by
            unfold zs at hx
            rw [List.getElem?_map, hpk] at hx
            exact (Option.some.inj hx).symm
          subst hxp
          have hpm := pr_pos k p (List.mem_of_getElem? hpk)
          injection hv with hv1 hv2 hv3
          subst hv1 hv3
          have HQ := Lib.hid hQ
          have HPK := Lib.hid hpk
          obtain ⟨r, hr⟩ : ∃ r, N % p = r := ⟨_, rfl⟩
          have hNp : ((N : Int) % (p : Int)) = (r : Int) := by rw [← hr]; simp
          have HRR := Lib.hid hr
          clear hr
          have hNb : N ≤ 400 := by have := HN.out; omega
          have hp0 : (p : Int) ≠ 0 := by omega
          clear hQ hpk hx hv2 hlk hjl hp
          by_cases hz : r = 0
          · subst hz
            have hn0 : ((0 : Nat) : Int) = 0 := rfl
            rw [hn0] at hNp
            clear hn0
            go_wp2_with fail
            go_roundw
            case rel => exact ⟨k + 1, by omega, by have := HN.out; congr 1; omega, by
              rw [pr_succ]
              unfold prStep
              rw [HN.out, if_neg (by
                intro hh
                rw [List.all_eq_true] at hh
                have := hh p (List.mem_of_getElem? HPK.out)
                rw [HRR.out] at this
                exact absurd this (by decide))]
              exact HQ.out⟩
            case measure => have := HN.out; simp [intOf]; omega
          · have hzb : ((r : Int) == 0) = false := by rw [beq_eq_false_iff_ne]; omega
            have hz1 : ¬ ((r : Int) = 0) := by omega
            go_wp2_with fail
            go_roundw
            case rel => exact ⟨j + 1, by omega, rfl, by simp, by
              rw [take_more HPK.out]
              intro q hq
              rcases List.mem_append.1 hq with h | h
              · exact HALL.out q h
              · rw [show q = p by simpa using h]; rw [HRR.out]; exact hz, HQ.out⟩
            case measure => simp [intOf]; omega
        · have hjm2 : j = m := by omega
          subst hjm2
          have hdj : decide ((j : Int) < (j : Int)) = false := decide_eq_false (by omega)
          have HQ := Lib.hid hQ
          clear hQ
          have HPS : RowKit.Hid (pr (k + 1) = pr k ++ [N]) := Lib.hid (by
            rw [pr_succ]
            unfold prStep
            rw [HN.out, if_pos (by
              rw [List.all_eq_true]
              intro q hq
              have := HALL.out q (by rw [List.take_of_length_le (by rw [HM.out]; omega)]; exact hq)
              simpa using this)])
          go_wp2_with (at_builtin; refine push64 wr rfl (.tmp 27) (.tmp 29) rfl w.heap.size _ (zs (pr k)) [(N : Int)] _ 1 rfl rfl HQ.out.own rfl rfl HQ.out.size (by rw [zs_length, HM.out]; omega) ?_)
          intro v' w' ho hg'
          have h1 : zs (pr k ++ [N]) = zs (pr k) ++ [(N : Int)] := by simp [zs]
          rw [← h1, ← HPS.out] at ho
          have HQ2 : RowKit.Hid (QR w v' (pr (k + 1)) w') := Lib.hid ⟨ho, HQ.out.own.grown hg' HQ.out.below HQ.out.size, Nat.le_trans HQ.out.size hg'.size⟩
          clear h1
          clear ho hg'
          have hNb : N ≤ 400 := by have := HN.out; omega
          go_wp2_with fail
          go_roundw
          case rel => exact ⟨k + 1, by omega, by have := HN.out; congr 1; omega, HQ2.out⟩
          case measure => have := HN.out; simp [intOf]; omega
    · have hk310 : k = 310 := by
        rcases Nat.lt_or_ge k 310 with h | h
        · have h1 := pr_le k (309 - k)
          rw [show k + (309 - k) = 309 by omega, pr_less] at h1
          omega
        · omega
      subst hk310
      rw [pr_all] at hQ ⊢
      have hd : decide (((64 : Nat) : Int) < 64) = false := rfl
      rw [show P64.length = 64 from rfl]
      have HQ := Lib.hid hQ
      clear hQ hlen
      go_wp2_with fail
      go_ret
      exact ⟨_, rfl, HQ.out⟩
end Go.Proofs.YtbklcelnnmhgkaaDoor
