/- Contract of the reference's Bad. -/
import Derived.Test.YtanmkddmebhdpaaUrs
namespace Go.Proofs.Ytanmkddmebhdpaa
set_option maxRecDepth 20000
open Go.RowKit Go.Lib

/-- What Sign tells at a place. -/
theorem sign_at (s : ByteArray) (p : Nat) (c : Nat) (t : List UInt8) (h : s.data.toList.drop p = encB c ++ t) (hc : okc c) (w : World) :
    Calls Try.prog 12 #[.string (s.extract p s.size)] w fun e w' => e = .returned (.tuple #[.int .i64 (c : Int), .int .i64 (widC c : Int)]) ∧ w' = w := by
  have := sign_any (s.extract p s.size) (encB c ++ t) w (by rw [ext_from, h])
  rwa [sign_ok c hc] at this
set_option maxHeartbeats 4000000 in
theorem refbad_any (s : ByteArray) (cs : List Nat) (r : List UInt8) (w : World) (h : s.data.toList = flatC cs ++ r) (hc : ∀ c ∈ cs, okc c) (hr : halt r) (hs : s.size ≤ 300000) :
    Calls Try.prog 5 #[.string s] w fun e w' => e = .returned (.int .i64 (badP cs r)) ∧ w' = w := by
  have HS := Lib.hid h
  have HC := Lib.hid (And.intro hc hr)
  have HZ := Lib.hid hs
  clear h hc hr hs
  go_enter Try.func5, Try.ntmps5
  go_wp2_with fail
  go_loopw [3] (fun a wr => ∃ (c1 c2 : List Nat) (p : Nat), c1 ++ c2 = cs ∧ (flatC c1).length = p ∧ a = .int .i64 (p : Int) ∧ wr = w) (fun a _ => s.size - (intOf a).toNat)
  case atStart => exact ⟨[], cs, 0, rfl, rfl, rfl, rfl⟩
  case round =>
    obtain ⟨c1, c2, p, hcs, hp, rfl, hw⟩ := hrel
    have hdrop : s.data.toList.drop p = flatC c2 ++ r := by
      rw [HS.out, ← hcs, flatC_append, List.append_assoc, ← hp]
      exact List.drop_left' rfl
    have HP := Lib.hid (And.intro hp hcs)
    have HW := Lib.hid hw
    clear hp hcs hw
    by_cases hend : flatC c2 ++ r = []
    · have hnp : ¬ p < s.size := by
        intro hlt
        have := congrArg List.length hdrop
        rw [hend, List.length_drop, ← Lib.size_eq] at this
        simp at this
        omega
      have HR : RowKit.Hid (badP cs r = -1) := Lib.hid (by unfold badP; rw [if_pos (List.append_eq_nil_iff.1 hend).2])
      have d1 : decide ((p : Int) < (s.size : Int)) = false := decide_eq_false (by omega)
      have d1n : decide (p < s.size) = false := decide_eq_false (by omega)
      clear hdrop hend
      go_wp2_with fail
      go_ret
      exact ⟨by rw [HR.out]; rfl, HW.out⟩
    · have hpl : p < s.size := by
        have := congrArg List.length hdrop
        rw [List.length_drop, ← Lib.size_eq] at this
        have h2 : 0 < (flatC c2 ++ r).length := List.length_pos_iff.2 hend
        omega
      have hps : p ≤ s.size := Nat.le_of_lt hpl
      have d1 : decide ((p : Int) < (s.size : Int)) = true := decide_eq_true (by omega)
      have d1n : decide (p < s.size) = true := decide_eq_true hpl
      have hpb : p ≤ 300000 := by have := HZ.out; omega
      match c2, hdrop, HP, hend with
      | [], hdrop, HP, hend =>
        have hr0 : r ≠ [] := by simpa [flatC] using hend
        have hd : s.data.toList.drop p = r := by simpa [flatC] using hdrop
        have hz := sign_halt r HC.out.2
        have HG := Lib.hid (fun wx => sign_any (s.extract p s.size) r wx (by rw [ext_from, hd]))
        obtain ⟨a, z, haz⟩ : ∃ a z, signP r = (a, z) := ⟨_, _, rfl⟩
        rw [haz] at hz HG
        have hz2 : z ≤ 0 := hz
        have d2 : decide (z ≤ 0) = true := decide_eq_true hz2
        have HF : RowKit.Hid (badP cs r = (p : Int)) := Lib.hid (by
          have e1 : cs = c1 := by rw [← HP.out.2, List.append_nil]
          unfold badP
          rw [if_neg hr0, e1, HP.out.1])
        unfold sigR at HG
        dsimp only at HG
        clear hd hz hz2 hdrop hend hr0 haz
        go_wp2_with fail
        refine (HG.out _).mono ?_
        rintro e wz ⟨rfl, hwz⟩
        have HW2 := Lib.hid (hwz.trans HW.out)
        clear hwz
        go_wp2_with fail
        go_ret
        exact ⟨by rw [HF.out]; rfl, HW2.out⟩
      | c :: c2, hdrop, HP, hend =>
        have hok : okc c := HC.out.1 c (by rw [← HP.out.2]; simp)
        rw [flatC_cons, List.append_assoc] at hdrop
        have HG := Lib.hid (fun wx => sign_at s p c _ hdrop hok wx)
        have hk := widC_pos c
        have hkl : p + widC c ≤ s.size := by
          have := congrArg List.length hdrop
          rw [List.length_drop, ← Lib.size_eq, List.length_append, encB_length] at this
          omega
        obtain ⟨k, hkk⟩ : ∃ k, widC c = k := ⟨_, rfl⟩
        have HKK := Lib.hid hkk
        rw [hkk] at HG hk hkl
        have d2 : decide ((k : Int) ≤ 0) = false := decide_eq_false (by omega)
        have hk0 : ¬ k = 0 := by omega
        have hk4 : k ≤ 4 := hk.2
        have HH := Lib.hid (And.intro hk.1 hkl)
        clear hdrop hend hok hk hkk hkl
        go_wp2_with fail
        refine (HG.out _).mono ?_
        rintro e wz ⟨rfl, hwz⟩
        have HW2 := Lib.hid (hwz.trans HW.out)
        clear hwz
        go_wp2_with fail
        go_roundw
        case rel => exact ⟨c1 ++ [c], c2, p + k, by rw [← HP.out.2]; simp, by rw [flatC_append, List.length_append, HP.out.1, show (flatC [c]).length = widC c by simp [flatC, encB_length], HKK.out], by simp, HW2.out⟩
        case measure => have h1 := HH.out.1; have h2 := HH.out.2; simp [intOf]; omega
end Go.Proofs.Ytanmkddmebhdpaa
