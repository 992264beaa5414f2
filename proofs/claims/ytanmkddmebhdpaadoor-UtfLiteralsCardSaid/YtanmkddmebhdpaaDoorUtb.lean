/- Contracts of wrong, Bad, Valid. -/
import Derived.Test.YtanmkddmebhdpaaDoorSml
import Derived.Test.YtanmkddmebhdpaaDoorUtq
import Derived.Lib.OthersKept
import Derived.Lib.Strings
import Derived.Laws.Strings3
namespace Go.Proofs.YtanmkddmebhdpaaDoor
set_option maxRecDepth 20000
open Go.RowKit Go.Lib

/-- What stands from a place on. -/
theorem ext_list (s : ByteArray) (i j : Nat) : (s.extract i j).data.toList = (s.data.toList.drop i).take (j - i) := by
  rw [← Lib.toList_data, Lib.extract_toList]
theorem ext_from (s : ByteArray) (i : Nat) : (s.extract i s.size).data.toList = s.data.toList.drop i := by
  rw [ext_list, Lib.size_eq]
  exact List.take_of_length_le (by simp)
set_option maxHeartbeats 400000 in
theorem hasp0 (s p : ByteArray) (w : World) :
    Calls Tryd.prog 39 #[.string s, .string p] w fun e w' => e = .returned (.bool (Lib.hasPrefix s.data.toList p.data.toList)) ∧ w' = w := by
  rw [← Lib.hasPrefix_of_take, ← Lib.size_eq, ← Lib.size_eq]
  go_enter Tryd.func39, Tryd.ntmps39
  go_wp2
  · rename_i h
    go_ret
    refine ⟨?_, rfl⟩
    show Ending.returned (Value.bool ((s.extract 0 p.size).toList == p.toList)) = _
    rw [Lib.extract_toList, Lib.toList_data]
    simp [h]
  · rename_i h
    go_ret
    refine ⟨?_, rfl⟩
    show Ending.returned (Value.bool false) = _
    simp [h]
set_option maxHeartbeats 400000 in
theorem hasp (s p : ByteArray) (w : World) :
    Calls Tryd.prog 31 #[.string s, .string p] w fun e w' => e = .returned (.bool (Lib.hasPrefix s.data.toList p.data.toList)) ∧ w' = w := by
  have H := Lib.hid (hasp0 s p w)
  go_enter Tryd.func31, Tryd.ntmps31
  go_wp2_with fail
  refine H.out.mono ?_
  rintro e wz ⟨rfl, rfl⟩
  go_wp2_with fail
  go_ret
  exact ⟨rfl, rfl⟩
theorem pre_rep (l : List UInt8) : Lib.hasPrefix l [239, 191, 189] = decide (l.take 3 = [239, 191, 189]) := by
  rw [← Lib.hasPrefix_of_take]
  by_cases h : l.take 3 = [239, 191, 189]
  · have : 3 ≤ l.length := by have := congrArg List.length h; rw [List.length_take] at this; simp at this; omega
    simp [h, this]
  · simp [h]
set_option maxHeartbeats 400000 in
theorem wrong_any (c : Nat) (t : ByteArray) (l : List UInt8) (w : World) (ht : t.data.toList = l) (hl : l ≠ []) (hc : (decodeL l).1 = c) :
    Calls Tryd.prog 22 #[.int .i32 (c : Int), .string t] w fun e w' => e = .returned (.bool (decide (decodeL l = (65533, 1)))) ∧ w' = w := by
  have hw := wrong_iff l hl
  rw [hc] at hw
  by_cases h : c = 65533
  · subst h
    have HP := Lib.hid (hasp t ⟨#[239, 191, 189]⟩ w)
    rw [ht, show (⟨#[239, 191, 189]⟩ : ByteArray).data.toList = [239, 191, 189] from rfl, pre_rep] at HP
    have HE : RowKit.Hid (decide (decodeL l = (65533, 1)) = !decide (l.take 3 = [239, 191, 189])) := Lib.hid (by
      by_cases h2 : l.take 3 = [239, 191, 189]
      · have : ¬ decodeL l = (65533, 1) := fun h3 => (hw.1 h3).2 h2
        simp [h2, this]
      · have : decodeL l = (65533, 1) := hw.2 ⟨rfl, h2⟩
        simp [h2, this])
    rw [HE.out]
    clear hw HE hc
    generalize decide (l.take 3 = [239, 191, 189]) = bb at HP ⊢
    go_enter Tryd.func22, Tryd.ntmps22
    go_wp2_with fail
    refine HP.out.mono ?_
    rintro e wz ⟨rfl, rfl⟩
    go_wp2_with fail
    go_ret
    exact ⟨rfl, rfl⟩
  · have hd : decide (decodeL l = (65533, 1)) = false := decide_eq_false (fun h3 => h (hw.1 h3).1)
    rw [hd]
    have hz : ((c : Int) == 65533) = false := by rw [beq_eq_false_iff_ne]; omega
    clear hw hd hc
    go_enter Tryd.func22, Tryd.ntmps22
    go_wp2_with fail
    go_ret
    exact ⟨rfl, rfl⟩
/-- The place of the first wrong byte. -/
def badP (cs : List Nat) (r : List UInt8) : Int := if r = [] then -1 else ((flatC cs).length : Int)
theorem flat_ok (cs : List Nat) (c : Nat) (r : List UInt8) (hc : okc c) : decodeL (flatC (c :: cs) ++ r) = (c, widC c) := by
  rw [flatC_cons, List.append_assoc]
  exact dec_enc c hc _
set_option maxHeartbeats 4000000 in
theorem bad_any (s : ByteArray) (cs : List Nat) (r : List UInt8) (w : World) (h : s.data.toList = flatC cs ++ r) (hc : ∀ c ∈ cs, okc c) (hr : halt r) (hs : s.size ≤ 9223372036854775807) :
    Calls Tryd.prog 13 #[.string s] w fun e w' => e = .returned (.int .i64 (badP cs r)) ∧ Below w.heap.size w w' := by
  have HS := Lib.hid h
  have HC := Lib.hid (And.intro hc hr)
  have HZ := Lib.hid hs
  have hsz : s.size = (flatC cs).length + r.length := by rw [Lib.size_eq, h, List.length_append]
  have HSZ := Lib.hid hsz
  clear h hc hr hs hsz
  go_enter Tryd.func13, Tryd.ntmps13
  go_wp2_with fail
  go_loopw [] (fun wr => ∃ c1 c2 : List Nat, c1 ++ c2 = cs ∧ wr.heap[w.heap.size]? = some (.stringIter s (flatC c1).length) ∧ Below w.heap.size w wr) (fun wr => s.size - wr.iterPos w.heap.size)
  case atStart =>
    refine ⟨[], cs, rfl, ?_, (Below.refl _ w).alloc (Nat.le_refl _) _⟩
    exact World.iter_heap w s 0
  case round =>
    obtain ⟨c1, c2, hcs, hit, hbw⟩ := hrel
    have hsz : w.heap.size < wr.heap.size := (Array.getElem?_eq_some_iff.1 hit).1
    have hdrop : s.data.toList.drop (flatC c1).length = flatC c2 ++ r := by
      rw [HS.out, ← hcs, flatC_append, List.append_assoc]
      exact List.drop_left' rfl
    obtain ⟨p, hp⟩ : ∃ p, (flatC c1).length = p := ⟨_, rfl⟩
    rw [hp] at hit hdrop
    have HP := Lib.hid hp
    have HCS := Lib.hid hcs
    have HBW := Lib.hid hbw
    have HIT := Lib.hid hit
    clear hp hcs hbw
    by_cases hend : flatC c2 ++ r = []
    · have hnp : ¬ p < s.size := by
        intro hlt
        have := congrArg List.length hdrop
        rw [hend, List.length_drop, ← Lib.size_eq] at this
        simp at this
        omega
      have hnx : ∀ ty, (Instr.next (.pointer (some ⟨w.heap.size, 0, none⟩)) true ty).run Tryd.prog wr = _ := fun ty => Lib.run_next_end_at wr w.heap.size s p ty hit hnp
      have HR : RowKit.Hid (badP cs r = -1) := Lib.hid (by unfold badP; rw [if_pos (List.append_eq_nil_iff.1 hend).2])
      clear hdrop hend hit
      go_wp2_with fail
      go_ret
      exact ⟨by rw [HR.out]; rfl, HBW.out⟩
    · have hpl : p < s.size := by
        have := congrArg List.length hdrop
        rw [List.length_drop, ← Lib.size_eq] at this
        have h2 : 0 < (flatC c2 ++ r).length := List.length_pos_iff.2 hend
        omega
      have hnx : ∀ ty, (Instr.next (.pointer (some ⟨w.heap.size, 0, none⟩)) true ty).run Tryd.prog wr = _ := fun ty => Lib.run_next_any_at wr w.heap.size s p ty hit hpl
      rw [← decodeL_drop, hdrop] at hnx
      obtain ⟨c, k, hd⟩ : ∃ c k, decodeL (flatC c2 ++ r) = (c, k) := ⟨_, _, rfl⟩
      have HW := Lib.hid (fun wx => wrong_any c (s.extract p s.size) (flatC c2 ++ r) wx (by rw [ext_from, hdrop]) hend (by rw [hd]))
      rw [hd] at hnx HW
      have HD := Lib.hid hd
      have HE := Lib.hid hend
      have hps : p ≤ s.size := Nat.le_of_lt hpl
      have HBX := Lib.hid (Lib.below_iterAt HBW.out (k := w.heap.size) (Nat.le_refl _) s (p + k))
      have HIX := Lib.hid (Lib.iterAt_heap wr w.heap.size s p (p + k) hit)
      have HPO : RowKit.Hid (wr.iterPos w.heap.size = p) := Lib.hid (by simp only [World.iterPos, hit])
      clear hd hdrop hend hit
      dsimp only at hnx
      by_cases hwr : (c, k) = (65533, 1)
      · have hdt : decide ((c, k) = (65533, 1)) = true := decide_eq_true hwr
        rw [hdt] at HW
        have HF : RowKit.Hid (badP cs r = (p : Int)) := Lib.hid (by
          cases c2 with
          | nil =>
            have e1 : cs = c1 := by rw [← HCS.out, List.append_nil]
            unfold badP
            rw [if_neg (by simpa [flatC] using HE.out), e1, HP.out]
          | cons x c2 =>
            have h1 := flat_ok c2 x r (HC.out.1 x (by rw [← HCS.out]; simp))
            rw [HD.out, hwr] at h1
            injection h1 with h1 h2
            subst h1
            exact absurd h2 (by decide))
        clear hdt hwr
        go_wp2_with fail
        refine (HW.out _).mono ?_
        rintro e wz ⟨rfl, rfl⟩
        go_wp2_with fail
        go_ret
        exact ⟨by rw [HF.out]; rfl, HBX.out⟩
      · have hdt : decide ((c, k) = (65533, 1)) = false := decide_eq_false hwr
        rw [hdt] at HW
        obtain ⟨c2', HF⟩ : ∃ c2', RowKit.Hid (c2 = c :: c2' ∧ k = widC c) := by
          cases c2 with
          | nil =>
            rcases HC.out.2 with h1 | h1
            · exact absurd (by simpa [flatC] using h1) HE.out
            · exact absurd (HD.out.symm.trans (by simpa [flatC] using h1)) hwr
          | cons x c2 =>
            have h1 := flat_ok c2 x r (HC.out.1 x (by rw [← HCS.out]; simp))
            rw [HD.out] at h1
            injection h1 with h1 h2
            subst h1
            exact ⟨c2, Lib.hid ⟨rfl, h2⟩⟩
        clear hdt hwr
        go_wp2_with fail
        refine (HW.out _).mono ?_
        rintro e wz ⟨rfl, rfl⟩
        go_wp2_with fail
        go_roundw
        case rel =>
          refine ⟨c1 ++ [c], c2', by rw [← HCS.out, HF.out.1]; simp, ?_, HBX.out⟩
          rw [flatC_append, List.length_append, HP.out, show (flatC [c]).length = k by rw [HF.out.2]; simp [flatC, encB_length]]
          exact HIX.out
        case measure =>
          have hpk : 1 ≤ k := by rw [HF.out.2]; exact (widC_pos c).1
          rw [HPO.out]
          simp only [World.iterPos, HIX.out]
          omega
theorem halt_any (s : ByteArray) : ∃ cs r, s.data.toList = flatC cs ++ r ∧ (∀ c ∈ cs, okc c) ∧ halt r := split_any _ _ (Nat.le_refl _)
set_option maxHeartbeats 1000000 in
theorem valid_any (s : ByteArray) (cs : List Nat) (r : List UInt8) (w : World) (h : s.data.toList = flatC cs ++ r) (hc : ∀ c ∈ cs, okc c) (hr : halt r) (hs : s.size ≤ 9223372036854775807) :
    Calls Tryd.prog 12 #[.string s] w fun e w' => e = .returned (.bool (decide (r = []))) ∧ Below w.heap.size w w' := by
  have HB := Lib.hid (bad_any s cs r w h hc hr hs)
  have hd : decide (badP cs r < 0) = decide (r = []) := by
    unfold badP
    by_cases h0 : r = []
    · simp [h0]
    · simp [h0]
  have HD := Lib.hid hd
  clear h hc hr hs hd
  obtain ⟨b, hb⟩ : ∃ b, badP cs r = b := ⟨_, rfl⟩
  rw [hb] at HB HD
  rw [← HD.out]
  clear HD hb
  go_enter Tryd.func12, Tryd.ntmps12
  go_wp2_with fail
  refine HB.out.mono ?_
  rintro e w1 ⟨rfl, hb1⟩
  have HB1 := Lib.hid hb1
  clear hb1 HB
  go_wp2_with fail
  go_ret
  exact ⟨rfl, HB1.out⟩
end Go.Proofs.YtanmkddmebhdpaaDoor
