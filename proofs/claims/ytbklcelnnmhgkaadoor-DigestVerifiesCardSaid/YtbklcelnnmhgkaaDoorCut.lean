/- Contracts of strings.CutPrefix as digest calls it, and of the reference's Is. -/
import Derived.Test.YtbklcelnnmhgkaaDoorIsn
import Derived.Lib.Strings
namespace Go.Proofs.YtbklcelnnmhgkaaDoor
open Go.RowKit

theorem pre_eq (s : ByteArray) : ((s.extract 0 7).toList == [115, 104, 97, 50, 53, 54, 58]) = decide (s.data.toList.take 7 = preL) := by
  rw [Lib.extract_toList]
  show (_ == preL) = _
  rw [Bool.eq_iff_iff]
  simp

set_option maxHeartbeats 400000 in
theorem has_short (s : ByteArray) (w : World) (hs : s.size < 7) : Calls Tryd.prog 39 #[.string s, .string preA] w fun e w' => e = .returned (.bool false) ∧ w = w' := by
  have h1 : decide ((7 : Int) ≤ (s.size : Int)) = false := by simp; omega
  have H := Lib.hid hs
  clear hs
  unfold preA
  go_enter Tryd.func39, Tryd.ntmps39
  go_wp2_with fail
  go_ret
  exact ⟨rfl, rfl⟩

set_option maxHeartbeats 400000 in
theorem has_long (s : ByteArray) (w : World) (hs : 7 ≤ s.size) : Calls Tryd.prog 39 #[.string s, .string preA] w fun e w' => e = .returned (.bool (decide (s.data.toList.take 7 = preL))) ∧ w = w' := by
  have h1 : decide ((7 : Int) ≤ (s.size : Int)) = true := by simp; omega
  have h2 := pre_eq s
  unfold preA
  go_enter Tryd.func39, Tryd.ntmps39
  go_wp2_with fail
  go_ret
  exact ⟨rfl, rfl⟩

def hasF (s : ByteArray) : Bool := decide (s.data.toList.take 7 = preL)
def cutB (s : ByteArray) : ByteArray := if hasF s then s.extract 7 s.size else s
theorem has_short_eq (s : ByteArray) (hs : s.size < 7) : hasF s = false := by
  unfold hasF
  rw [decide_eq_false_iff_not]
  intro h
  have := congrArg List.length h
  rw [List.length_take] at this
  simp [preL] at this
  omega
theorem has_size {s : ByteArray} (h : hasF s = true) : 7 ≤ s.size := by
  by_cases hs : s.size < 7
  · rw [has_short_eq s hs] at h; cases h
  · omega
theorem has_any (s : ByteArray) (w : World) : Calls Tryd.prog 39 #[.string s, .string preA] w fun e w' => e = .returned (.bool (hasF s)) ∧ w = w' := by
  by_cases hs : s.size < 7
  · rw [has_short_eq s hs]; exact has_short s w hs
  · exact has_long s w (by omega)

set_option maxHeartbeats 400000 in
theorem cut34 (s : ByteArray) (w : World) : Calls Tryd.prog 34 #[.string s, .string preA] w fun e w' => e = .returned (.tuple #[.string (cutB s), .bool (hasF s)]) ∧ w = w' := by
  cases hh : hasF s with
  | false =>
    have hc : cutB s = s := by unfold cutB; rw [hh]; rfl
    rw [hc]
    have HH := Lib.hid hh
    clear hh hc
    go_enter Tryd.func34, Tryd.ntmps34
    go_wp2_with fail
    refine (has_any s w).mono ?_
    rintro e w' ⟨rfl, rfl⟩
    rw [HH.out]
    go_wp2_with fail
    go_ret2
    exact ⟨rfl, rfl⟩
  | true =>
    have hc : cutB s = s.extract 7 s.size := by unfold cutB; rw [hh]; rfl
    have h7 := has_size hh
    rw [hc]
    have HH := Lib.hid hh
    have hp : preA.size = 7 := rfl
    clear hh hc
    generalize hq : preA = q
    rw [hq] at hp
    go_enter Tryd.func34, Tryd.ntmps34
    go_wp2_with fail
    rw [← hq]
    refine (has_any s w).mono ?_
    rintro e w' ⟨rfl, rfl⟩
    rw [HH.out, hq]
    go_wp2_with fail
    go_ret2
    exact ⟨rfl, rfl⟩

set_option maxHeartbeats 400000 in
theorem cut_any (s : ByteArray) (w : World) : Calls Tryd.prog 25 #[.string s, .string preA] w fun e w' => e = .returned (.tuple #[.string (cutB s), .bool (hasF s)]) ∧ w = w' := by
  go_enter Tryd.func25, Tryd.ntmps25
  go_wp2_with fail
  refine (cut34 s w).mono ?_
  rintro e w' ⟨rfl, rfl⟩
  go_wp2_with fail
  go_ret2
  exact ⟨rfl, rfl⟩

theorem all_of (l : List UInt8) (hl : l.length = 71) (h : ∀ (j : Nat) (x : UInt8), 7 ≤ j → j < 71 → l[j]? = some x → fig x = true) : (l.drop 7).all fig = true := by
  rw [List.all_eq_true]
  intro x hx
  obtain ⟨j, hj, rfl⟩ := List.getElem_of_mem hx
  rw [List.length_drop] at hj
  refine h (7 + j) _ (by omega) (by omega) ?_
  rw [List.getElem_drop]
  exact List.getElem?_eq_getElem (by omega)
theorem not_all {l : List UInt8} {k : Nat} {x : UInt8} (h7 : 7 ≤ k) (hx : l[k]? = some x) (hf : fig x = false) : (l.drop 7).all fig = false := by
  rw [List.all_eq_false]
  refine ⟨x, ?_, by rw [hf]; decide⟩
  have : (l.drop 7)[k - 7]? = some x := by rw [List.getElem?_drop, show 7 + (k - 7) = k by omega]; exact hx
  exact List.mem_of_getElem? this
theorem fig_no {x : UInt8} (h : x.toNat < 48 ∨ (57 < x.toNat ∧ x.toNat < 97) ∨ 102 < x.toNat) : fig x = false := by
  unfold fig
  rw [Bool.or_eq_false_iff, Bool.and_eq_false_iff, Bool.and_eq_false_iff]
  simp only [decide_eq_false_iff_not]
  omega
theorem fig_yes {x : UInt8} (h : (48 ≤ x.toNat ∧ x.toNat ≤ 57) ∨ (97 ≤ x.toNat ∧ x.toNat ≤ 102)) : fig x = true := by
  unfold fig
  rw [Bool.or_eq_true, Bool.and_eq_true, Bool.and_eq_true]
  simp only [decide_eq_true_eq]
  exact h

set_option maxHeartbeats 400000 in
theorem ris_any (s : ByteArray) (w : World) : Calls Tryd.prog 12 #[.string s] w fun e w' => e = .returned (.bool (isF s.data.toList)) ∧ w = w' := by
  have hlen : s.data.toList.length = s.size := by simp
  by_cases h71 : s.size = 71
  · have d1 : ((s.size : Int) != 71) = false := by simp; omega
    have h2 := pre_eq s
    have hp : decide (s.data.toList.take 7 = preL) = hasF s := rfl
    rw [hp] at h2
    have hle : 7 ≤ s.size := by omega
    cases hh : hasF s with
    | false =>
      rw [hh] at h2
      have hi : isF s.data.toList = false := by
        unfold isF
        rw [hp, hh]; simp
      rw [hi]
      have H := Lib.hid h71
      clear hp hh hi hlen h71
      go_enter Tryd.func12, Tryd.ntmps12
      go_wp2_with fail
      go_ret
      exact ⟨rfl, rfl⟩
    | true =>
      rw [hh] at h2
      have hi : isF s.data.toList = (s.data.toList.drop 7).all fig := by
        unfold isF
        rw [hp, hh, hlen]
        simp [h71]
      rw [hi]
      have H := Lib.hid h71
      have HL := Lib.hid hlen
      clear hp hh hi hlen
      obtain ⟨R, HR⟩ : ∃ R, RowKit.Hid ((s.data.toList.drop 7).all fig = R) := ⟨_, Lib.hid rfl⟩
      rw [HR.out]
      go_enter Tryd.func12, Tryd.ntmps12
      go_wp2_with fail
      go_loopw [3] (fun i wr => ∃ k : Nat, 7 ≤ k ∧ k ≤ 71 ∧ i = .int .i64 (k : Int) ∧ wr = w ∧ RowKit.Hid (∀ (j : Nat) (x : UInt8), 7 ≤ j → j < k → s.data.toList[j]? = some x → fig x = true)) (fun i _ => 71 - (intOf i).toNat)
      case atStart => exact ⟨7, by omega, by omega, rfl, rfl, Lib.hid (fun j x h1 h2 => by omega)⟩
      case round =>
        obtain ⟨k, hk7, hk, rfl, rfl, HA⟩ := hrel
        by_cases hlt : k < 71
        · have hks : k < s.size := by omega
          have hdk : decide ((k : Int) < 71) = true := decide_eq_true (by omega)
          obtain ⟨x, hx⟩ : ∃ x, s.data.toList[k]? = some x := ⟨_, List.getElem?_eq_getElem (by simpa using hks)⟩
          have hxs : s[k] = x := by
            have := (List.getElem?_eq_some_iff.1 hx).2
            rw [← this]; rfl
          have HX := Lib.hid hx
          clear hx
          have hr : x.toNat < 48 ∨ (48 ≤ x.toNat ∧ x.toNat ≤ 57) ∨ (57 < x.toNat ∧ x.toNat < 97) ∨ (97 ≤ x.toNat ∧ x.toNat ≤ 102) ∨ 102 < x.toNat := by omega
          rcases hr with h | h | h | h | h
          · have c1 : decide ((48 : Int) ≤ (x.toNat : Int)) = false := decide_eq_false (by omega)
            have c3 : decide ((97 : Int) ≤ (x.toNat : Int)) = false := decide_eq_false (by omega)
            have HF := Lib.hid (fig_no (x := x) (.inl h))
            clear h
            go_wp2_with fail
            go_ret
            exact ⟨by rw [← HR.out, not_all hk7 HX.out HF.out]; rfl, rfl⟩
          · have c1 : decide ((48 : Int) ≤ (x.toNat : Int)) = true := decide_eq_true (by omega)
            have c2 : decide ((x.toNat : Int) ≤ 57) = true := decide_eq_true (by omega)
            have HF := Lib.hid (fig_yes (x := x) (.inl h))
            clear h
            go_wp2_with fail
            go_roundw
            case rel => exact ⟨k + 1, by omega, by omega, by simp, trivial, Lib.hid (fun j y h1 h2 hy => by
              by_cases hj : j = k
              · subst hj; rw [HX.out] at hy; injection hy with hy; subst hy; exact HF.out
              · exact HA.out j y h1 (by omega) hy)⟩
            case measure => simp [intOf]; omega
          · have c1 : decide ((48 : Int) ≤ (x.toNat : Int)) = true := decide_eq_true (by omega)
            have c2 : decide ((x.toNat : Int) ≤ 57) = false := decide_eq_false (by omega)
            have c3 : decide ((97 : Int) ≤ (x.toNat : Int)) = false := decide_eq_false (by omega)
            have HF := Lib.hid (fig_no (x := x) (.inr (.inl h)))
            clear h
            go_wp2_with fail
            go_ret
            exact ⟨by rw [← HR.out, not_all hk7 HX.out HF.out]; rfl, rfl⟩
          · have c1 : decide ((48 : Int) ≤ (x.toNat : Int)) = true := decide_eq_true (by omega)
            have c2 : decide ((x.toNat : Int) ≤ 57) = false := decide_eq_false (by omega)
            have c3 : decide ((97 : Int) ≤ (x.toNat : Int)) = true := decide_eq_true (by omega)
            have c4 : decide ((x.toNat : Int) ≤ 102) = true := decide_eq_true (by omega)
            have HF := Lib.hid (fig_yes (x := x) (.inr h))
            clear h
            go_wp2_with fail
            go_roundw
            case rel => exact ⟨k + 1, by omega, by omega, by simp, trivial, Lib.hid (fun j y h1 h2 hy => by
              by_cases hj : j = k
              · subst hj; rw [HX.out] at hy; injection hy with hy; subst hy; exact HF.out
              · exact HA.out j y h1 (by omega) hy)⟩
            case measure => simp [intOf]; omega
          · have c1 : decide ((48 : Int) ≤ (x.toNat : Int)) = true := decide_eq_true (by omega)
            have c2 : decide ((x.toNat : Int) ≤ 57) = false := decide_eq_false (by omega)
            have c3 : decide ((97 : Int) ≤ (x.toNat : Int)) = true := decide_eq_true (by omega)
            have c4 : decide ((x.toNat : Int) ≤ 102) = false := decide_eq_false (by omega)
            have HF := Lib.hid (fig_no (x := x) (.inr (.inr h)))
            clear h
            go_wp2_with fail
            go_ret
            exact ⟨by rw [← HR.out, not_all hk7 HX.out HF.out]; rfl, rfl⟩
        · have hk1 : k = 71 := by omega
          subst hk1
          go_wp2_with fail
          go_ret
          exact ⟨by rw [← HR.out, all_of _ (by rw [HL.out]; exact H.out) HA.out]; rfl, rfl⟩
  · have d1 : ((s.size : Int) != 71) = true := by simp; omega
    have hi : isF s.data.toList = false := by
      unfold isF
      rw [hlen]; simp [h71]
    rw [hi]
    clear hi hlen
    go_enter Tryd.func12, Tryd.ntmps12
    go_wp2_with fail
    go_ret
    exact ⟨rfl, rfl⟩
end Go.Proofs.YtbklcelnnmhgkaaDoor
