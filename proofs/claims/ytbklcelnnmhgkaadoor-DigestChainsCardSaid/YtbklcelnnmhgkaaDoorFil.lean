/- Contract of sha.filling. -/
import Derived.Test.YtbklcelnnmhgkaaDoorHash
namespace Go.Proofs.YtbklcelnnmhgkaaDoor
open Go.RowKit

/-- What a loop keeps: the row that grows, and that nothing old has turned. -/
structure Grows (w : World) (v : Value) (l : List UInt8) (wr : World) : Prop where
  own : Own wr w.heap.size v l
  below : Below w.heap.size w wr
  size : w.heap.size ≤ wr.heap.size
theorem Grows.push {w wr w' : World} {v v' : Value} {l l' : List UInt8} (h : Grows w v l wr) (ho : Own w' w.heap.size v' l') (hg : wr.grownBy w' v.ownBlock) : Grows w v' l' w' :=
  ⟨ho, h.own.grown hg h.below h.size, Nat.le_trans h.size hg.size⟩

theorem gap_more (n j : Nat) (h : j < gap n) : (n + (j + 1)) % 64 ≠ 56 := by unfold gap at h; omega
theorem gap_done (n : Nat) : (n + (gap n + 1)) % 64 = 56 := by unfold gap; omega
theorem be64_val (n k : Nat) : (n : Int) * 8 / 2 ^ (56 - 8 * k) % 256 = ((be64 (n * 8) k).toNat : Int) := by
  unfold be64
  rw [UInt8.toNat_ofNat']
  have h1 : ((2 : Int) ^ (56 - 8 * k)) = ((2 ^ (56 - 8 * k) : Nat) : Int) := by simp
  rw [h1, show (n : Int) * 8 = ((n * 8 : Nat) : Int) by simp, ← Int.natCast_ediv]
  generalize n * 8 / 2 ^ (56 - 8 * k) = q
  omega
theorem gap_lt (n : Nat) : gap n < 64 := by unfold gap; omega

set_option maxHeartbeats 400000 in
theorem filling_any (n : Nat) (w : World) (hn : n ≤ 1000000) : Calls Tryd.prog 38 #[.int .i64 (n : Int)] w fun e w' => ∃ v, e = .returned v ∧ Grows w v (fillP n) w' := by
  have hgl := gap_lt n
  have HGL := Lib.hid hgl
  clear hgl
  go_enter Tryd.func38, Tryd.ntmps38
  go_wp2_with fail
  have hG : Grows w (.slice (some ⟨w.heap.size, 0, none⟩) 1 1) (128 :: List.replicate 0 0) (w.alloc (.cells #[.int .u8 128] 5)) :=
    ⟨Own.lit w _ [128] 1 rfl rfl (by decide), (Below.refl _ _).alloc (Nat.le_refl _) _, by simp⟩
  generalize w.alloc (.cells #[.int .u8 128] 5) = w1 at hG ⊢
  go_loopw [3] (fun v wr => ∃ j : Nat, j ≤ gap n ∧ Grows w v (128 :: List.replicate j 0) wr) (fun v _ => match v with | .slice _ m _ => gap n + 1 - m | _ => 0)
  case atStart => exact ⟨0, by omega, hG⟩
  case round =>
    clear hG
    obtain ⟨j, hj, hG⟩ := hrel
    obtain ⟨L, hL⟩ : ∃ L, 128 :: List.replicate j (0 : UInt8) = L := ⟨_, rfl⟩
    have hlen : L.length = j + 1 := by rw [← hL]; simp
    rw [hL] at hG
    obtain ⟨A, c, rfl⟩ := hG.own.slice
    have HJ := Lib.hid hj
    have HG := Lib.hid hG
    have HL := Lib.hid hL
    have HN := Lib.hid hlen
    have hlb : L.length ≤ 65 := by have := HGL.out; omega
    clear hG hj hL
    by_cases hlt : j < gap n
    · have h5 : (((n : Int) + (L.length : Int)) % 64 != 56) = true := by have := gap_more n j hlt; simp; omega
      have HLT := Lib.hid hlt
      clear hlt hlen
      go_wp2_with (at_builtin; refine push8 wr rfl (.tmp 13) (.tmp 14) rfl w.heap.size _ L [0] _ 1 rfl rfl HG.out.own rfl rfl HG.out.size (by omega) ?_)
      intro v' w' ho hg'
      have hG := HG.out.push ho hg'
      clear ho hg'
      obtain ⟨A2, c2, rfl⟩ := hG.own.slice
      have HG2 := Lib.hid hG
      clear hG
      go_wp2_with fail
      go_roundw
      case rel => exact ⟨j + 1, HLT.out, by
        rw [List.replicate_succ', ← List.cons_append, HL.out]
        exact HG2.out⟩
      case measure => have := HLT.out; have := HN.out; simp; omega
    · have hjn : j = gap n := by have := HJ.out; omega
      have h5 : (((n : Int) + (L.length : Int)) % 64 != 56) = false := by have := gap_done n; rw [← hjn] at this; simp; omega
      clear hlt hlen
      have HJN := Lib.hid hjn
      clear hjn
      go_wp2_with fail
      go_loopw [3, 19] (fun v i wr => ∃ k : Nat, k ≤ 8 ∧ i = .int .i64 k ∧ Grows w v (L ++ tail8 (n * 8) k) wr) (fun _ i _ => 8 - (intOf i).toNat)
      case atStart => exact ⟨0, by omega, rfl, by simpa [tail8] using HG.out⟩
      case round =>
        clear HG
        obtain ⟨k, hk, rfl, hG⟩ := hrel
        obtain ⟨M, hM⟩ : ∃ M, L ++ tail8 (n * 8) k = M := ⟨_, rfl⟩
        have hmb : M.length ≤ 80 := by rw [← hM, List.length_append, tail8_length]; omega
        rw [hM] at hG
        obtain ⟨A3, c3, rfl⟩ := hG.own.slice
        have HM := Lib.hid hM
        have HG := Lib.hid hG
        clear hG hM
        by_cases hlt : k < 8
        · have hdk : decide ((k : Int) < 8) = true := decide_eq_true (by omega)
          have hxv := be64_val n k
          obtain ⟨x, HX⟩ : ∃ x, RowKit.Hid (be64 (n * 8) k = x) := ⟨_, Lib.hid rfl⟩
          rw [HX.out] at hxv
          go_wp2_with (at_builtin; refine push8 wr rfl (.tmp 22) (.tmp 29) rfl w.heap.size _ M [x] _ 1 rfl rfl HG.out.own rfl rfl HG.out.size (by omega) ?_)
          intro v' w' ho hg'
          have hG := HG.out.push ho hg'
          clear ho hg'
          obtain ⟨A4, c4, rfl⟩ := hG.own.slice
          have HG2 := Lib.hid hG
          clear hG
          go_wp2_with fail
          go_roundw
          case rel => exact ⟨k + 1, by omega, by simp, by
            show Grows w _ (L ++ (tail8 (n * 8) k ++ [be64 (n * 8) k])) _
            rw [← List.append_assoc, HM.out, HX.out]
            exact HG2.out⟩
          case measure => simp [intOf]; omega
        · have hk8 : k = 8 := by omega
          subst hk8
          have hdk : decide (((8 : Nat) : Int) < 8) = false := rfl
          have hMf : RowKit.Hid (fillP n = M) := Lib.hid (by rw [← HM.out, ← HL.out, HJN.out]; rfl)
          go_wp2_with fail
          go_ret
          exact ⟨_, rfl, by rw [hMf.out]; exact HG.out⟩
end Go.Proofs.YtbklcelnnmhgkaaDoor
