/- Contract of Write. -/
import Derived.Test.YtbklcelnnmhgkaaDoorReg
namespace Go.Proofs.YtbklcelnnmhgkaaDoor
open Go.RowKit

set_option maxHeartbeats 400000 in
theorem write_any (g : Nat) (A : Option Addr) (n c : Nat) (l : List UInt8) (h : HS) (w : World) (hh : HashAt w g h) (hr : RdN w g A n (us l)) (ht : Tabs w) (hg : 2 ≤ g) (hn : h.n + n ≤ 1000000) :
    Calls Tryd.prog 32 #[.pointer (some ⟨g, 0, none⟩), .slice A n c] w fun e w' => e = .returned (.int .i64 ((h.n + n : Nat) : Int)) ∧ HashAt w' g (puts h l) ∧ w.grownBy w' (some g) := by
  have hl : l.length = n := by have := hr.1; rwa [us_length] at this
  have HL := Lib.hid hl
  have HR := Lib.hid hr
  have HG := Lib.hid hg
  have HN := Lib.hid hn
  have hW : WL w g h w := ⟨hh, World.grownBy.refl _ _, ht⟩
  clear hl hr hh ht hg hn
  go_enter Tryd.func32, Tryd.ntmps32
  go_wp2_with fail
  go_loopw [11] (fun i wr => ∃ k : Nat, k ≤ n ∧ i = .int .i64 k ∧ WL w g (puts h (l.take k)) wr) (fun i _ => n - (intOf i).toNat)
  case atStart => exact ⟨0, by omega, rfl, hW⟩
  case round =>
    clear hW
    obtain ⟨k, hk, rfl, hW⟩ := hrel
    have hnk : (puts h (l.take k)).n = h.n + k := by rw [puts_n, List.length_take]; have := HL.out; omega
    obtain ⟨h0, hh0⟩ : ∃ h0, puts h (l.take k) = h0 := ⟨_, rfl⟩
    rw [hh0] at hW hnk
    have HH0 := Lib.hid hh0
    clear hh0
    have hcn := hW.hash.row.cell 72
    rw [hcells_n _ hW.hash.len] at hcn
    obtain ⟨N, hN⟩ : ∃ N, h0.n = N := ⟨_, rfl⟩
    rw [hN] at hcn
    have hNb : N = h.n + k := by omega
    have HNN := Lib.hid hN
    clear hN hnk
    by_cases hlt : k < n
    · have hdk : decide ((k : Int) < (n : Int)) = true := decide_eq_true (by omega)
      obtain ⟨b, o, x, rfl, hx, hc⟩ := (HR.out.grown hW.grown).at8 hlt
      have hcb := hW.hash.row.cell (8 + N % 64)
      rw [hcells_blk _ hW.hash.len _ (by omega)] at hcb
      have hfb := hW.hash.row.thawed (8 + N % 64)
      have HX := Lib.hid hx
      have HW := Lib.hid hW
      have hNs : N ≤ 1000000 := by have := HN.out; omega
      have hkb : k ≤ 1000000 := by have := HN.out; omega
      have HNB := Lib.hid hNb
      clear hx hW hNb
      go_wp2_with fail
      go_region
      have hW := (HW.out.set_blk HG.out (N % 64) (by omega) x).drew
      clear HW hcn hcb hfb hc
      generalize (wr.setCell ⟨g, 8 + N % 64, none⟩ (.int .u8 (x.toNat : Int))).drew = w1 at hW ⊢
      have hcn := hW.hash.row.cell 72
      rw [hcells_n _ hW.hash.len, HNN.out] at hcn
      have hfn := hW.hash.row.thawed 72
      have HW := Lib.hid hW
      clear hW
      have hput : RowKit.Hid (puts h (l.take (k + 1)) = put h0 x) := Lib.hid (by rw [take_more HX.out, puts_append, HH0.out]; rfl)
      by_cases hz : (N + 1) % 64 = 0
      · have hzb : (((N : Int) + 1) % 64 == 0) = true := by rw [beq_iff_eq]; omega
        go_upto_region 9 with fail
        have hW := HW.out.set_n HG.out (N + 1) ((N : Int) + 1) (by omega)
        clear HW hcn hfn
        generalize w1.setCell ⟨g, 72, none⟩ (.int .i64 ((N : Int) + 1)) = w2 at hW ⊢
        obtain ⟨h1, H1⟩ : ∃ h1, RowKit.Hid ((⟨h0.st, h0.blk.set (N % 64) x, N + 1⟩ : HS) = h1) := ⟨_, Lib.hid rfl⟩
        have hW : WL w g h1 w2 := by rw [← H1.out]; exact hW
        refine region9 _ w2 _ g h1 rfl rfl hW.hash hW.tabs (fun _ _ _ _ _ h => h) ?_
        intro w3 hh3 hg3
        have hW3 : WL w g ⟨mixP h1.st h1.blk, h1.blk, h1.n⟩ w3 := ⟨hh3, hW.grown.trans hg3, hW.tabs.grown hg3 (fun k h => by injection h with h; have := HG.out; omega)⟩
        have HW3 := Lib.hid hW3
        clear hW hh3 hg3 hW3
        obtain ⟨z1, hz1⟩ : ∃ z, Value.agg (u32s h1.st.list) = z := ⟨_, rfl⟩
        obtain ⟨z2, hz2⟩ : ∃ z, Value.agg (u8s h1.blk) = z := ⟨_, rfl⟩
        obtain ⟨z3, hz3⟩ : ∃ z, Value.agg (u32s (mixP h1.st h1.blk).list) = z := ⟨_, rfl⟩
        rw [hz1, hz2, hz3]
        clear hz1 hz2 hz3
        go_wp2_with fail
        go_roundw
        case rel => exact ⟨k + 1, by omega, by simp, by
          rw [hput.out]
          unfold put
          rw [HNN.out, if_pos hz]
          have := HW3.out
          rw [← H1.out] at this
          exact this⟩
        case measure => simp [intOf]; omega
      · have hzb : (((N : Int) + 1) % 64 == 0) = false := by rw [beq_eq_false_iff_ne]; omega
        have hW := HW.out.set_n HG.out (N + 1) ((N : Int) + 1) (by omega)
        have HW2 := Lib.hid hW
        clear HW hW
        go_wp2_with fail
        go_roundw
        case rel => exact ⟨k + 1, by omega, by simp, by
          rw [hput.out]
          unfold put
          rw [HNN.out, if_neg hz]
          exact HW2.out⟩
        case measure => simp [intOf]; omega
    · have hkn : k = n := by omega
      subst hkn
      have hdk : decide ((k : Int) < (k : Int)) = false := decide_eq_false (by omega)
      have HW := Lib.hid hW
      have HNB := Lib.hid hNb
      have HP : RowKit.Hid (puts h l = h0) := Lib.hid (by have := HH0.out; rwa [List.take_of_length_le (by have := HL.out; omega)] at this)
      clear hW hNb
      go_wp2_with fail
      go_ret
      exact ⟨by rw [← HNB.out]; rfl, by rw [HP.out]; exact HW.out.hash, HW.out.grown⟩
end Go.Proofs.YtbklcelnnmhgkaaDoor
