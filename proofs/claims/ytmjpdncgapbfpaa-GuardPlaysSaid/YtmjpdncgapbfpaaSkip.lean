/- A script in memory; contract of the reference's skip. -/
import Derived.Test.YtmjpdncgapbfpaaAlive
import Derived.Test.YtmjpdncgapbfpaaPlayP
namespace Go.Proofs.Ytmjpdncgapbfpaa
open Go.RowKit

/-- A slice that reads as a script; where it is not empty it lies below block B. -/
def RdO (w : World) (B : Nat) (A : Option Addr) (n : Nat) (ops : List Sc) : Prop :=
  ops.length = n ∧ (0 < n → ∃ g o, A = some ⟨g, o, none⟩ ∧ g < B ∧ ∀ i x, ops[i]? = some x →
    w.cell? ⟨g, o + i * 3, none⟩ = some (.int .i64 (x.k : Int)) ∧ w.cell? ⟨g, o + i * 3 + 1, none⟩ = some (.int .i64 x.c) ∧ w.cell? ⟨g, o + i * 3 + 2, none⟩ = some (.string x.t))

theorem RdO.below {w w' : World} {B : Nat} {A : Option Addr} {n : Nat} {ops : List Sc} (h : RdO w B A n ops) (hb : ∀ p : Addr, p.block < B → w'.cell? p = w.cell? p) : RdO w' B A n ops := by
  refine ⟨h.1, fun hn => ?_⟩
  obtain ⟨g, o, rfl, hg, hc⟩ := h.2 hn
  exact ⟨g, o, rfl, hg, fun i x hx => by rw [hb _ hg, hb _ hg, hb _ hg]; exact hc i x hx⟩

theorem drop_cons {α : Type} {l : List α} {k : Nat} {x : α} (h : l[k]? = some x) : l.drop k = x :: l.drop (k + 1) := by
  obtain ⟨hk, rfl⟩ := List.getElem?_eq_some_iff.1 h
  exact List.drop_eq_getElem_cons hk

def Skipped (ops : List Sc) (n i0 : Nat) (w : World) (e : Ending) (w' : World) : Prop := ∃ j : Nat, e = .returned (.int .i64 j) ∧ j ≤ n ∧ ops.drop j = skl 1 (ops.drop i0) ∧ w = w'

set_option maxHeartbeats 400000 in
theorem skip_any (A : Option Addr) (n c : Nat) (ops : List Sc) (i0 : Nat) (w : World) (hr : RdO w w.heap.size A n ops) (hn : n ≤ 60) (hi : i0 ≤ n) :
    Calls Try.prog 33 #[.slice A n c, .int .i64 (i0 : Int)] w (Skipped ops n i0 w) := by
  have HR := Lib.hid hr
  have HL := Lib.hid hr.1
  clear hr
  go_enter Try.func33, Try.ntmps33
  go_wp2_with fail
  go_loop [1, 5] (fun i op => ∃ (j q : Nat), j ≤ n ∧ q ≤ 1 + j ∧ i = .int .i64 j ∧ op = .int .i64 q ∧ skl q (ops.drop j) = skl 1 (ops.drop i0)) (fun i _ => n - (intOf i).toNat)
  case atStart => exact ⟨i0, 1, hi, by omega, rfl, rfl, rfl⟩
  case round =>
    obtain ⟨j, q, hj, hq, rfl, rfl, hs⟩ := hrel
    have HS := Lib.hid hs
    clear hs
    by_cases hlt : j < n ∧ 0 < q
    · obtain ⟨h1, h2⟩ := hlt
      obtain ⟨g, o, rfl, hg, hc⟩ := HR.out.2 (by omega)
      obtain ⟨x, hx⟩ : ∃ x, ops[j]? = some x := ⟨_, List.getElem?_eq_getElem (by rw [HL.out]; exact h1)⟩
      have c0 := (hc j x hx).1
      have HX := Lib.hid hx
      clear hc hx
      obtain ⟨p, rfl⟩ : ∃ p, q = p + 1 := ⟨q - 1, by omega⟩
      have hsk : skl (p + 1) (ops.drop j) = if x.k = 4 ∨ x.k = 5 then skl (p + 2) (ops.drop (j + 1)) else if x.k = 6 then skl p (ops.drop (j + 1)) else skl (p + 1) (ops.drop (j + 1)) := by
        rw [drop_cons HX.out, skl]
      have HSK := Lib.hid hsk
      clear hsk
      have d1 : decide ((j : Int) < (n : Int)) = true := by simp; omega
      have d2 : decide (0 < ((p + 1 : Nat) : Int)) = true := by simp
      by_cases h45 : x.k = 4 ∨ x.k = 5
      · have b6 : ((x.k : Int) == 6) = false := by simp; omega
        have hn1 : skl (p + 2) (ops.drop (j + 1)) = skl 1 (ops.drop i0) := by rw [← HS.out, HSK.out, if_pos h45]
        have HN := Lib.hid hn1
        clear hn1
        by_cases h4 : x.k = 4
        · have b4 : ((x.k : Int) == 4) = true := by simp; omega
          clear h45 h4
          go_wp2_with fail
          go_round
          case rel => exact ⟨j + 1, p + 2, by omega, by omega, by go_num, by go_num, HN.out⟩
          case measure => simp [intOf]; omega
        · have b4 : ((x.k : Int) == 4) = false := by simp; omega
          have b5 : ((x.k : Int) == 5) = true := by simp; omega
          clear h45 h4
          go_wp2_with fail
          go_round
          case rel => exact ⟨j + 1, p + 2, by omega, by omega, by go_num, by go_num, HN.out⟩
          case measure => simp [intOf]; omega
      · have b4 : ((x.k : Int) == 4) = false := by simp; omega
        have b5 : ((x.k : Int) == 5) = false := by simp; omega
        by_cases h6 : x.k = 6
        · have b6 : ((x.k : Int) == 6) = true := by simp; omega
          have hn1 : skl p (ops.drop (j + 1)) = skl 1 (ops.drop i0) := by rw [← HS.out, HSK.out, if_neg h45, if_pos h6]
          have HN := Lib.hid hn1
          clear hn1 h45 h6
          go_wp2_with fail
          go_round
          case rel => exact ⟨j + 1, p, by omega, by omega, by go_num, by go_num, HN.out⟩
          case measure => simp [intOf]; omega
        · have b6 : ((x.k : Int) == 6) = false := by simp; omega
          have hn1 : skl (p + 1) (ops.drop (j + 1)) = skl 1 (ops.drop i0) := by rw [← HS.out, HSK.out, if_neg h45, if_neg h6]
          have HN := Lib.hid hn1
          clear hn1 h45 h6
          go_wp2_with fail
          go_round
          case rel => exact ⟨j + 1, p + 1, by omega, by omega, by go_num, by go_num, HN.out⟩
          case measure => simp [intOf]; omega
    · have hend : ops.drop j = skl 1 (ops.drop i0) := by
        rw [← HS.out]
        by_cases hq0 : q = 0
        · subst hq0; rw [skl]
        · rw [List.drop_of_length_le (by rw [HL.out]; omega), skl_nil]
      have HE := Lib.hid hend
      clear hend
      by_cases h1 : j < n
      · have hq0 : q = 0 := by omega
        subst hq0
        clear hlt
        have d1 : decide ((j : Int) < (n : Int)) = true := by simp; omega
        go_wp2_with fail
        go_ret
        exact ⟨j, rfl, hj, HE.out, rfl⟩
      · clear hlt
        have d1 : decide ((j : Int) < (n : Int)) = false := by simp; omega
        go_wp2_with fail
        go_ret
        exact ⟨j, rfl, hj, HE.out, rfl⟩
end Go.Proofs.Ytmjpdncgapbfpaa
