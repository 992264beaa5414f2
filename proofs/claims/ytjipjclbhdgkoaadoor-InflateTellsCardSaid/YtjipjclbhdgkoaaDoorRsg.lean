/- Contracts of the reference's sign and codes. -/
import Derived.Test.YtjipjclbhdgkoaaDoorRms
import Derived.Test.YtjipjclbhdgkoaaDoorGroupG
import Derived.Test.YtjipjclbhdgkoaaDoorMcd
namespace Go.Proofs.YtjipjclbhdgkoaaDoor
open Go.RowKit

variable {h : Nat} {A : Option Addr} {N c : Nat} {M : List UInt8} {lim : Nat} {v : Value} {s : Sx} {bad : Nat}
theorem tk_no {ls : List Nat} {M : List UInt8} (h : tkE ls M ≠ 0) : tkS ls M = 0 ∧ tkN ls M = 0 := by
  unfold tkE at h
  cases hO : tkO ls M with
  | some s => rw [hO] at h; exact absurd rfl h
  | none => unfold tkS tkN; rw [hO]; exact ⟨rfl, rfl⟩
/-- Block p holds the codes of the lengths ls, as texts; it is none of the machine's. -/
structure RC (w : World) (h : Nat) (v : Value) (p : Nat) (ls : List Nat) : Prop where
  low : Low ls
  ok : okF (cnt ls)
  len : ls.length ≤ 320
  row : Row w p (sa (strAt ls) ls.length) 9
  ne : p ≠ h
  ap : some p ≠ v.ownBlock
theorem RC.moves {w w' : World} {v v' : Value} {p : Nat} {ls : List Nat} (g : RC w h v p ls) (hm : Moves w w' h h v v') : RC w' h v' p ls :=
  ⟨g.low, g.ok, g.len, by unfold Row; rw [hm.block p g.row.lt g.ne g.ne g.ap]; exact g.row, g.ne, hm.apart g.row.lt g.ap⟩
theorem RC.still {w w' : World} {v : Value} {p : Nat} {ls : List Nat} (g : RC w h v p ls) (hg : w.grownBy w' none) : RC w' h v p ls := g.moves (Moves.grown v hg (.inl rfl))
theorem rsign_bad (x : Value) (w : World) (g : RS w h A N c M lim v s bad) (hb : bad ≠ 0) : Calls Tryd.prog 31 #[.pointer (some ⟨h, 0, none⟩), x] w fun e w' => e = .returned (.int .i64 0) ∧ w = w' := by
  have c5 := g.cell5
  have e1 : ((bad : Int) == 0) = false := by rw [beq_eq_false_iff_ne]; omega
  have e2 : ¬ (bad : Int) = 0 := by omega
  clear g
  go_enter Tryd.func31, Tryd.ntmps31
  go_wp2_with fail
  go_ret
  exact ⟨rfl, rfl⟩

set_option maxHeartbeats 2000000 in
set_option maxRecDepth 20000 in
theorem rsign_any (p : Nat) (ls : List Nat) (w : World) (g : RS w h A N c M lim v s 0) (hc : RC w h v p ls) :
    Calls Tryd.prog 31 #[.pointer (some ⟨h, 0, none⟩), .slice (some ⟨p, 0, none⟩) ls.length ls.length] w (ROut w h A N c M lim v (signX ls M lim s) ints zeroI) := by
  have c5 := g.cell5
  have c0 := g.cell0
  have c1 := g.cell1
  have hle := g.le
  have hnn := g.nn
  have HG := Lib.hid g
  have HC := Lib.hid hc
  obtain ⟨ps, hps⟩ : ∃ ps, s.pos = ps := ⟨_, rfl⟩
  have HPS := Lib.hid hps
  rw [hps] at c1 hle
  obtain ⟨p15, hp15⟩ : ∃ p15, ps + 15 = p15 := ⟨_, rfl⟩
  have e15 : (ps : Int) + 15 = (p15 : Int) := by omega
  have ew : IntKind.i64.wrap (p15 : Int) = (p15 : Int) := wrap64_in _ (by omega) (by omega)
  obtain ⟨n, hn⟩ : ∃ n, ls.length = n := ⟨_, rfl⟩
  have HN := Lib.hid hn
  obtain ⟨en, hen, hen2⟩ : ∃ en, (N ≤ p15 → en = N) ∧ (¬ N ≤ p15 → en = p15) := by
    by_cases h1 : N ≤ p15
    · exact ⟨N, fun _ => rfl, fun h => absurd h1 h⟩
    · exact ⟨p15, fun h => absurd h h1, fun _ => rfl⟩
  have hen3 : ps ≤ en := by
    by_cases h1 : N ≤ p15
    · rw [hen h1]; exact hle
    · rw [hen2 h1]; omega
  have hen4 : en ≤ N := by
    by_cases h1 : N ≤ p15
    · rw [hen h1]; exact Nat.le_refl _
    · rw [hen2 h1]; omega
  have hen5 : en ≤ c := by have := g.nc; omega
  have hpc : ps ≤ c := by omega
  have htk : (M.drop ps).take (en - ps) = (M.drop ps).take 15 := by
    by_cases h1 : N ≤ p15
    · rw [hen h1, List.take_of_length_le (by rw [List.length_drop, g.len]; omega), List.take_of_length_le (by rw [List.length_drop, g.len]; omega)]
    · rw [hen2 h1, show p15 - ps = 15 by omega]
  have HD : RowKit.Hid (∀ w', Below h w w' → ∀ A', (A' = A ∧ c = ps ∨ ∃ b, A = some ⟨b, 0, none⟩ ∧ A' = some ⟨b, ps, none⟩) → Rd w' h A' (en - ps) (us ((M.drop ps).take 15))) := Lib.hid (fun w' hb A' hA' => by
    have hr := HG.out.rd.below hb
    have hl : (us ((M.drop ps).take 15)).length = en - ps := by rw [← htk, us_length, List.length_take, List.length_drop, HG.out.len]; omega
    rcases hA' with ⟨rfl, hc⟩ | ⟨b, rfl, rfl⟩
    · exact ⟨hl, fun h0 => by omega⟩
    · have h1 := hr.part ps (en - ps) (by omega)
      rw [Nat.zero_add, show ((us M).drop ps).take (en - ps) = us ((M.drop ps).take 15) by rw [← htk]; simp [us, List.map_take, List.map_drop]] at h1
      exact h1)
  have HTK : RowKit.Hid (∀ w', Below h w w' → (∀ k, k = p → w'.heap[k]? = w.heap[k]?) → h ≤ w'.heap.size → ∀ A' c', (A' = A ∧ c = ps ∨ ∃ b, A = some ⟨b, 0, none⟩ ∧ A' = some ⟨b, ps, none⟩) →
      Calls Tryd.prog 43 #[.slice (some ⟨p, 0, none⟩) n n, .slice A' (en - ps) c'] w' fun e w'' => e = .returned (.tuple #[.int .i64 (tkS ls (M.drop ps) : Int), .int .i64 (tkN ls (M.drop ps) : Int), .int .i64 (tkE ls (M.drop ps) : Int)]) ∧ ∃ k, w'' = w'.drewN k) := Lib.hid (fun w' hb hp hz A' c' hA' => by
    have h1 := rtake_any ls p n A' (en - ps) c' ((M.drop ps).take 15) w' HC.out.low HC.out.ok hn (by rw [← hn]; exact HC.out.len) (by unfold Row; rw [hp p rfl, ← hn]; exact HC.out.row) ((HD.out w' hb A' hA').more hz) ((HG.out.bin.drop ps).take 15) (by
      by_cases h1 : N ≤ p15
      · rw [hen h1]; omega
      · rw [hen2 h1]; omega)
    rw [tkS_15 HC.out.low, tkN_15 HC.out.low, tkE_15 HC.out.low] at h1
    exact h1)
  rw [hn]
  obtain ⟨X, HX⟩ : ∃ X, RowKit.Hid (signX ls M lim s = X) := ⟨_, Lib.hid rfl⟩
  rw [HX.out]
  obtain ⟨tS, htS⟩ : ∃ t, tkS ls (M.drop ps) = t := ⟨_, rfl⟩
  obtain ⟨tN, htN⟩ : ∃ t, tkN ls (M.drop ps) = t := ⟨_, rfl⟩
  obtain ⟨tE, htE⟩ : ∃ t, tkE ls (M.drop ps) = t := ⟨_, rfl⟩
  have hrest : (tE = 0 ∧ X = .ok (tS, ⟨ps + tN, s.out, s.steps⟩) ∧ ps + tN ≤ N) ∨ (tE ≠ 0 ∧ X = .error tE ∧ tS = 0 ∧ tN = 0) := by
    by_cases hE : tE = 0
    · left
      have h1 := sign_ok (lim := lim) (s := s) (ls := ls) (M := M) (by rw [hps, htE]; exact hE)
      rw [hps, htS, htN, HX.out] at h1
      obtain ⟨x, hO, hx⟩ := tk_ok (ls := ls) (M := M.drop ps) (by rw [htE]; exact hE)
      have h2 := hx.2.1
      rw [List.length_drop, g.len] at h2
      have h3 : tkN ls (M.drop ps) = lenAt ls x := by unfold tkN; rw [hO]
      exact ⟨hE, h1, by omega⟩
    · right
      have h1 := sign_bad (lim := lim) (s := s) (ls := ls) (M := M) (by rw [hps, htE]; exact hE)
      rw [hps, htE, HX.out] at h1
      have h2 := tk_no (ls := ls) (M := M.drop ps) (by rw [htE]; exact hE)
      exact ⟨hE, h1, by rw [← htS]; exact h2.1, by rw [← htN]; exact h2.2⟩
  rw [htS, htN, htE] at HTK
  have HR := Lib.hid hrest
  have htn : ps + tN ≤ N := by
    rcases hrest with h1 | h1
    · exact h1.2.2
    · rw [h1.2.2.2]; exact hle
  obtain ⟨pn, hpn⟩ : ∃ pn, ps + tN = pn := ⟨_, rfl⟩
  have epn : (ps : Int) + (tN : Int) = (pn : Int) := by omega
  have HPN := Lib.hid hpn
  clear g hc hps htk hn hrest htS htN htE hpn
  have hmn : (if p15 < N then (p15 : Int) else (N : Int)) = (en : Int) := by
    by_cases h1 : N ≤ p15
    · rw [if_neg (by omega), hen h1]
    · rw [if_pos (by omega), hen2 h1]
  have HMN := Lib.hid hmn
  clear hen hen2 hmn hp15
  go_enter Tryd.func31, Tryd.ntmps31
  go_wp2_with fail
  go_still (by kernel_rfl)
  change Exit.then _ _ _ _ w.drew
  rw [HMN.out]
  have hg2 := HG.out.still (drew_grown w)
  have HM2 : RowKit.Hid (Moves w w.drew h h v v) := Lib.hid (Moves.grown v (drew_grown w) (.inl rfl))
  have d0 := hg2.cell0
  have d1 : w.drew.cell? ⟨h, 1, none⟩ = some (.int .i64 (ps : Int)) := by have := hg2.cell1; rwa [HPS.out] at this
  have HG2 := Lib.hid hg2
  have HTQ : RowKit.Hid (∀ n2 A' c', (A' = A ∧ c = ps ∨ ∃ b, A = some ⟨b, 0, none⟩ ∧ A' = some ⟨b, ps, none⟩) →
      Calls Tryd.prog 43 #[.slice (some ⟨p, 0, none⟩) n n, .slice A' (en - ps) c'] (w.drew.drewN n2) fun e w'' => e = .returned (.tuple #[.int .i64 (tS : Int), .int .i64 (tN : Int), .int .i64 (tE : Int)]) ∧ ∃ k, w'' = (w.drew.drewN n2).drewN k) := Lib.hid (fun n2 A' c' hA' => by
    have hgr := (drew_grown w).trans (grown_drewN w.drew n2)
    exact HTK.out _ ⟨hgr.os, hgr.tape, hgr.output, hgr.size, fun k hk => hgr.block k (Nat.lt_trans hk HG.out.lt) (by simp)⟩ (fun k hk => hgr.block k (by rw [hk]; exact HC.out.row.lt) (by simp)) (Nat.le_trans (Nat.le_of_lt HG.out.lt) hgr.size) A' c' hA')
  clear hg2 c5 c0 c1 HTK
  generalize w.drew = w2 at HM2 HG2 HTQ d0 d1 ⊢
  go_wp2_with fail
  by_cases hcp : c = ps
  · subst hcp
    have HTQ0 : RowKit.Hid (∀ n2 c', Calls Tryd.prog 43 #[.slice (some ⟨p, 0, none⟩) n n, .slice A 0 c'] (w2.drewN n2) fun e w'' => e = .returned (.tuple #[.int .i64 (tS : Int), .int .i64 (tN : Int), .int .i64 (tE : Int)]) ∧ ∃ k, w'' = (w2.drewN n2).drewN k) := Lib.hid (fun n2 c' => by
      have h9 := HTQ.out n2 A c' (.inl ⟨rfl, rfl⟩)
      rwa [show en - c = 0 by omega] at h9)
    go_quiet (first | (go_at_call 43; exact Calls.quiet_of (HTQ0.out _ _)))
    have HGq := Lib.hid (HG2.out.still (grown_drewN w2 nq))
    have HMq := Lib.hid (HM2.out.trans (Moves.grown v (grown_drewN w2 nq) (.inl rfl)))
    have q1 : (w2.drewN nq).cell? ⟨h, 1, none⟩ = some (.int .i64 (c : Int)) := by have := HGq.out.cell1; rwa [HPS.out] at this
    have q1f := HGq.out.row.thawed 1
    have hs1 := HGq.out.set 1 (.int .i64 (pn : Int)) (s' := ⟨pn, s.out, s.steps⟩) (bad' := 0) rfl (show pn ≤ N by have := HPN.out; omega) rfl (by have h9 := HGq.out.sp; rw [HPS.out] at h9; show s.steps ≤ pn + 1; have := HPN.out; omega)
    have q5 := hs1.1.cell5
    have q5f := hs1.1.row.thawed 5
    have HS2 := Lib.hid (hs1.1.set 5 (.int .i64 (tE : Int)) (s' := ⟨pn, s.out, s.steps⟩) (bad' := tE) rfl hs1.1.le rfl hs1.1.sp)
    have HMs := Lib.hid (HMq.out.trans hs1.2)
    clear hs1 HGq HMq d0 d1
    generalize w2.drewN nq = w3 at HS2 HMs q1 q1f q5 q5f ⊢
    go_wp2_with fail
    go_ret
    rcases HR.out with ⟨hE, hX, _⟩ | ⟨hE, hX, hS, hN⟩
    · subst hE
      exact .inl ⟨tS, ⟨pn, s.out, s.steps⟩, v, by rw [hX, HPN.out], HS2.out.1, HMs.out.trans HS2.out.2, rfl⟩
    · exact .inr ⟨tE, ⟨pn, s.out, s.steps⟩, v, hX, hE, HS2.out.1, HMs.out.trans HS2.out.2, by rw [hS]; rfl⟩
  rcases HG2.out.form with ⟨rfl, hN0, hc0⟩ | ⟨b, rfl⟩
  · omega
  go_quiet (first | (go_at_call 43; exact Calls.quiet_of (HTQ.out _ _ _ (.inr ⟨b, rfl, rfl⟩))))
  have HGq := Lib.hid (HG2.out.still (grown_drewN w2 nq))
  have HMq := Lib.hid (HM2.out.trans (Moves.grown v (grown_drewN w2 nq) (.inl rfl)))
  have q1 : (w2.drewN nq).cell? ⟨h, 1, none⟩ = some (.int .i64 (ps : Int)) := by have := HGq.out.cell1; rwa [HPS.out] at this
  have q1f := HGq.out.row.thawed 1
  have hs1 := HGq.out.set 1 (.int .i64 (pn : Int)) (s' := ⟨pn, s.out, s.steps⟩) (bad' := 0) rfl (show pn ≤ N by have := HPN.out; omega) rfl (by have h9 := HGq.out.sp; rw [HPS.out] at h9; show s.steps ≤ pn + 1; have := HPN.out; omega)
  have q5 := hs1.1.cell5
  have q5f := hs1.1.row.thawed 5
  have HS2 := Lib.hid (hs1.1.set 5 (.int .i64 (tE : Int)) (s' := ⟨pn, s.out, s.steps⟩) (bad' := tE) rfl hs1.1.le rfl hs1.1.sp)
  have HMs := Lib.hid (HMq.out.trans hs1.2)
  clear hs1 HGq HMq d0 d1
  generalize w2.drewN nq = w3 at HS2 HMs q1 q1f q5 q5f ⊢
  go_wp2_with fail
  go_ret
  rcases HR.out with ⟨hE, hX, _⟩ | ⟨hE, hX, hS, hN⟩
  · subst hE
    exact .inl ⟨tS, ⟨pn, s.out, s.steps⟩, v, by rw [hX, HPN.out], HS2.out.1, HMs.out.trans HS2.out.2, rfl⟩
  · exact .inr ⟨tE, ⟨pn, s.out, s.steps⟩, v, hX, hE, HS2.out.1, HMs.out.trans HS2.out.2, by rw [hS]; rfl⟩
end Go.Proofs.YtjipjclbhdgkoaaDoor
