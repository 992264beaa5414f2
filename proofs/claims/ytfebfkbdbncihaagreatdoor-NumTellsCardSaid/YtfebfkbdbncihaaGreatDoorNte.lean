/- Contracts of numDigits and setDigits. -/
import Derived.Test.YtfebfkbdbncihaaGreatDoorNtd
import Derived.Test.YtfebfkbdbncihaaGreatDoorNue
import Derived.Lib.ItoaLen
namespace Go.Proofs.YtfebfkbdbncihaaGreatDoor
set_option maxRecDepth 100000
open Go.RowKit

abbrev enc8 : UInt8 → Value := fun b => Value.int .u8 (b.toNat : Int)
/-- How many figures a number has, none for 0; and the figures. -/
def ndZ (u : Nat) : Nat := if u = 0 then 0 else Lib.nDigits u
def figD (u : Nat) : List UInt8 := if u = 0 then [] else Lib.decDigits u
theorem figD_len (u : Nat) : (figD u).length = ndZ u := by
  unfold figD ndZ; split
  · rfl
  · exact Lib.decDigits_length u
theorem ndZ_le (u : Nat) (h : u < 18446744073709551616) : ndZ u ≤ 20 := by
  unfold ndZ; split
  · omega
  · exact Lib.nDigits_le20 u h
theorem ndZ_pow : ∀ u : Nat, u < 10 ^ ndZ u := by
  intro u
  unfold ndZ
  by_cases h0 : u = 0
  · rw [if_pos h0]; omega
  · rw [if_neg h0]
    suffices h : ∀ n u : Nat, u < n → u < 10 ^ Lib.nDigits u from h (u + 1) u (by omega)
    intro n
    induction n with
    | zero => intro u h; omega
    | succ n ih =>
      intro u h
      by_cases h10 : u < 10
      · rw [Lib.nDigits_small h10]; omega
      · rw [Lib.nDigits_big h10, Nat.pow_succ]
        have := ih (u / 10) (by omega)
        omega
/-- How many figures there are up to the last that is no nought. -/
def nzF (D : List UInt8) : Nat := (Lib.trimRightB D 48).length
theorem trimr_snoc (D : List UInt8) (c : UInt8) : Lib.trimRightB (D ++ [c]) 48 = if c == 48 then Lib.trimRightB D 48 else D ++ [c] := by
  unfold Lib.trimRightB
  rw [List.reverse_append]
  show ((c :: D.reverse).dropWhile (· == 48)).reverse = _
  rw [List.dropWhile_cons]
  split
  · rfl
  · simp
theorem nz_step {D : List UInt8} {k : Nat} {c : UInt8} (h : D[k]? = some c) : Lib.trimRightB (D.take (k + 1)) 48 = if c == 48 then Lib.trimRightB (D.take k) 48 else D.take (k + 1) := by
  have hk : k < D.length := by
    rcases Nat.lt_or_ge k D.length with h1 | h1
    · exact h1
    · rw [List.getElem?_eq_none h1] at h; cases h
  have e : D[k] = c := by rw [List.getElem?_eq_getElem hk] at h; injection h
  rw [List.take_succ_eq_append_getElem hk, e, trimr_snoc]
theorem grown_putRow (w : World) (b : Nat) (d : Array UInt8) : w.grownBy (Sort.putRow enc8 w b 0 d) (some b) := by
  refine ⟨rfl, rfl, rfl, ?_, fun k _ hne => ?_⟩
  · show w.heap.size ≤ (w.heap.modify b _).size
    rw [Array.size_modify]; exact Nat.le_refl _
  · show (w.heap.modify b _)[k]? = w.heap[k]?
    rw [Array.getElem?_modify, if_neg (by intro e; exact hne (by rw [e]))]
set_option maxHeartbeats 1000000 in
theorem nd_any (u : Nat) (hu : u < 18446744073709551616) (w : World) (ht : NTabs w) : Calls Tryz.prog 74 #[.int .u64 (u : Int)] w fun e w' => e = .returned (.int .i64 (ndZ u : Int)) ∧ w' = w := by
  by_cases h0 : u = 0
  · subst h0
    have hl := Tryz.bits_Len64 0 w (by decide) (by decide)
    have hc : w.cell? ⟨3, 0, none⟩ = some (.int .u64 1) := Lib.TabIs.cell ht.u64 (by kernel_rfl) 0 (by decide)
    have HL := Lib.hid hl
    have HX := Lib.hid (fun w => l10_any 0 w (by decide) (by decide))
    rw [show l10 0 = 0 by decide] at HX
    rw [show ((Lib.bitLen (0 : Int).toNat : Nat) : Int) = 0 by decide] at HL
    clear hl ht hu
    go_enter Tryz.func74, Tryz.ntmps74
    go_wp2_with (first | (go_at_call 96; refine HL.out.mono ?_; rintro e w1 ⟨rfl, rfl⟩) | (go_at_call 95; refine (HX.out _).mono ?_; rintro e w1 ⟨rfl, rfl⟩))
    refine (Tryz.internal_strconv_bool2_int false w1).mono ?_
    rintro e w2 ⟨rfl, rfl⟩
    go_wp2_with fail
    go_ret
    exact ⟨rfl, rfl⟩
  · have h := Tryz.internal_strconv_numDigits u (by omega) hu w ht.u64
    unfold ndZ
    rw [if_neg h0]
    exact h
set_option maxHeartbeats 1000000 in
theorem sd_any (b u : Nat) (p : Int) (w : World) (cs : Array Value) (hu : u < 18446744073709551616) (hp1 : -100000 ≤ p) (hp2 : p ≤ 100000) (hr : Row w b cs 143) (hcs : cs = Array.replicate 32 (.int .u8 0)) :
    Calls Tryz.prog 106 #[.slice (some ⟨b, 0, none⟩) 32 32, .int .u64 (u : Int), .int .i64 p, .int .i64 (ndZ u : Int)] w fun e w' =>
      e = .returned (.tuple #[.int .i64 ((ndZ u : Int) + p), .int .i64 (nzF (figD u) : Int)]) ∧ (∀ j c, (figD u)[j]? = some c → w'.cell? ⟨b, j, none⟩ = some (.int .u8 (c.toNat : Int))) ∧ w.grownBy w' (some b) := by
  have h20 := ndZ_le u hu
  have hH : Sort.Holds enc8 w b 0 (Array.replicate (ndZ u) 0) := fun j hj => by
    have hj2 : j < ndZ u := by simpa using hj
    refine ⟨?_, hr.thawed _⟩
    rw [hr.cell, hcs, Array.getElem?_replicate, if_pos (by omega), getElem!_pos _ j hj]
    simp
  have hsz : (Array.replicate (ndZ u) (0 : UInt8)).size = ndZ u := by simp
  have HF := Lib.hid (Tryz.internal_strconv_formatBase10 b 0 32 u (Array.replicate (ndZ u) 0) w hH (by rw [hsz]; exact ndZ_pow u) hu (by rw [hsz]; omega))
  rw [hsz] at HF
  have HDG : RowKit.Hid (∀ (v' : Nat) (dk : Array UInt8), Lib.FmtInv (ndZ u) u 0 v' dk → ∀ j c, (figD u)[j]? = some c → j < ndZ u ∧ c = dk[j]!) := Lib.hid (by
    intro v' dk hf j c hc
    have hj : j < (figD u).length := by
      rcases Nat.lt_or_ge j (figD u).length with h1 | h1
      · exact h1
      · rw [List.getElem?_eq_none h1] at hc; cases hc
    have hj2 := hj
    rw [figD_len] at hj2
    refine ⟨hj2, ?_⟩
    unfold figD at hc hj
    unfold ndZ at hf
    split at hc
    · cases hc
    · rename_i h0
      rw [if_neg h0] at hf hj
      have := Lib.row_is_numeral hf j hj
      rw [List.getElem?_eq_getElem hj] at hc
      injection hc with hc
      rw [← hc, this])
  have HHH := Lib.hid hH
  have HLEN := Lib.hid (figD_len u)
  generalize figD u = D at HDG HLEN ⊢
  generalize hnd : ndZ u = nd at *
  have hle : decide ((nd : Int) ≤ 32) = true := decide_eq_true (by omega)
  clear hcs hsz hH hr hnd
  go_enter Tryz.func106, Tryz.ntmps106
  go_wp2_with fail
  refine HF.out.mono ?_
  rintro e w1 ⟨rfl, n1, v1, dk, rfl, hf⟩
  have HC : RowKit.Hid (∀ j c, D[j]? = some c → ((Sort.putRow enc8 w b 0 dk).drewN n1).cell? ⟨b, j, none⟩ = some (.int .u8 (c.toNat : Int))) := Lib.hid (fun j c hc => by
    obtain ⟨hj, hcd⟩ := HDG.out v1 dk hf j c hc
    have hds : dk.size = (Array.replicate nd (0 : UInt8)).size := by simp; exact hf.size
    have := Sort.cell?_putRow enc8 w b 0 _ dk HHH.out hds j (by rw [hds]; simpa using hj)
    rw [Nat.zero_add] at this
    rw [hcd]
    exact this)
  have HG : RowKit.Hid (w.grownBy ((Sort.putRow enc8 w b 0 dk).drewN n1) (some b)) := Lib.hid ((grown_putRow w b dk).trans (grown_any (grown_drewN _ n1) _))
  clear hf HF HDG HHH
  generalize (Sort.putRow enc8 w b 0 dk).drewN n1 = w2 at HC HG ⊢
  have HCL := HC
  go_wp2_with fail
  go_loop [3] (fun n => ∃ k : Nat, n = .int .i64 (k : Int) ∧ k ≤ nd ∧ RowKit.Hid (Lib.trimRightB (D.take k) 48 = Lib.trimRightB D 48)) (fun n => (intOf n).toNat)
  case atStart => exact ⟨nd, rfl, Nat.le_refl _, Lib.hid (by rw [List.take_of_length_le (by rw [HLEN.out]; exact Nat.le_refl _)])⟩
  case round =>
    obtain ⟨k, rfl, hk, HT⟩ := hrel
    cases k with
    | zero =>
      have HN : RowKit.Hid (nzF D = 0) := Lib.hid (by unfold nzF; rw [← HT.out]; rfl)
      rw [show ((0 : Nat) : Int) = 0 from rfl]
      go_wp2_with fail
      go_ret2
      exact ⟨by rw [HN.out]; rfl, HC.out, HG.out⟩
    | succ k =>
      have hkD : k < D.length := by rw [HLEN.out]; omega
      obtain ⟨c, hc⟩ : ∃ c, D[k]? = some c := ⟨D[k], List.getElem?_eq_getElem hkD⟩
      have hcl := HC.out k c hc
      have HS := Lib.hid (nz_step hc)
      have hk1 : ((k + 1 : Nat) : Int) - 1 = (k : Int) := by omega
      by_cases h48 : c = 48
      · have hm : ((c.toNat : Int) == 48) = true := by rw [h48]; rfl
        have HT2 : RowKit.Hid (Lib.trimRightB (D.take k) 48 = Lib.trimRightB D 48) := Lib.hid (by rw [← HT.out, HS.out, h48]; rfl)
        generalize (c.toNat : Int) = m at hcl hm
        clear hc h48
        go_wp2_with fail
        go_round
        case rel => exact ⟨k, by go_num, by omega, HT2⟩
        case measure => simp [intOf]
      · have hm : ((c.toNat : Int) == 48) = false := by rw [beq_eq_false_iff_ne]; intro e; exact h48 (UInt8.toNat_inj.1 (by show c.toNat = 48; omega))
        have HN : RowKit.Hid (nzF D = k + 1) := Lib.hid (by
          unfold nzF
          rw [← HT.out, HS.out, if_neg (by simpa using h48), List.length_take]
          omega)
        generalize (c.toNat : Int) = m at hcl hm
        clear hc h48
        go_wp2_with fail
        go_ret2
        exact ⟨by rw [HN.out]; rfl, HC.out, HG.out⟩
end Go.Proofs.YtfebfkbdbncihaaGreatDoor
