/- Contract of the reference's Quote. -/
import Derived.Test.YtanmkddmebhdpaaUrb
import Derived.Test.YtanmkddmebhdpaaUrf
import Derived.Lib.AppendStr
namespace Go.Proofs.Ytanmkddmebhdpaa
set_option maxRecDepth 20000
open Go.RowKit Go.Lib

/-- append(out, s...) of a text. -/
theorem catS {ops : Array Oper} {rest : List Oper} {o : Oper} {a : Act} {Q : Exit → Act → World → Prop} (w0 : World) (hgd : o.guard = none) (s x : Operand)
    (ho : o.op = .call { callee := .builtin .append, args := #[s, x], argTypes := #[37, 9] })
    (B : Nat) (v : Value) (l : List UInt8) (t : ByteArray) (hs : a.eval s = v) (hx : a.eval x = .string t)
    (hown : Own w0 B v l) (hB : B ≤ w0.heap.size) (hl : l.length + t.size ≤ 1000000)
    (h : ∀ v' w', Own w' B v' (l ++ t.data.toList) → w0.grownBy w' v.ownBlock → wpList Try.prog ops Q rest (a.put o.dst v') w') :
    wpList Try.prog ops Q (o :: rest) a w0 := by
  obtain ⟨i0, hi, hz0, hz1, hz2⟩ := info_parts info5
  refine Lib.wpList_append_own_string w0 hgd s x 37 9 ho B 5 i0 Try.underlying37 Try.underlying9 hi hz0 hz1 hz2 v l.length (us l) hs hown t hx (by unfold maxLen; omega) (by omega) hB ?_
  intro v' w' h1 h2 _
  refine h v' w' ?_ h2
  unfold Own
  rw [List.length_append, us_append, ← Lib.size_eq]
  exact h1
/-- What holds at each round. -/
def QInv (w : World) (nar : Bool) (cs : List Nat) (b a : Value) (wr : World) : Prop :=
  ∃ (c1 c2 : List Nat) (A : Option Addr) (n k p : Nat), c1 ++ c2 = cs ∧ b = .slice A n k ∧ a = .int .i64 (p : Int) ∧ (flatC c1).length = p ∧ Own wr w.heap.size (.slice A n k) (34 :: c1.flatMap (escP nar)) ∧ Below w.heap.size w wr
theorem QInv.step {w w3 : World} {nar : Bool} {cs c1 c2 : List Nat} {c p : Nat} {v : Value} {z : Int} (hcs : c1 ++ c :: c2 = cs) (hp : (flatC c1).length = p) (hz : z = (p : Int) + (widC c : Int))
    (ho : Own w3 w.heap.size v ((34 :: c1.flatMap (escP nar)) ++ escP nar c)) (hb : Below w.heap.size w w3) : QInv w nar cs v (.int .i64 z) w3 := by
  obtain ⟨A, k, rfl⟩ := ho.slice
  refine ⟨c1 ++ [c], c2, A, _, k, p + widC c, by rw [← hcs]; simp, rfl, by rw [hz]; simp, by rw [flatC_append, List.length_append, hp, show (flatC [c]).length = widC c by simp [flatC, encB_length]], ?_, hb⟩
  rw [show (34 :: (c1 ++ [c]).flatMap (escP nar)) = (34 :: c1.flatMap (escP nar)) ++ escP nar c by simp]
  exact ho
/-- What Quote answers. -/
def rquoR (nar : Bool) (cs : List Nat) (r : List UInt8) : Value := if r = [] then .tuple #[.string ⟨(quoP nar cs).toArray⟩, .bool true] else .tuple #[.string ⟨#[]⟩, .bool false]
theorem esc_34 (nar : Bool) : escP nar 34 = [92, 34] := by unfold escP; rw [if_pos (by decide)]; rfl
theorem esc_92 (nar : Bool) : escP nar 92 = [92, 92] := by unfold escP; rw [if_pos (by decide)]; rfl
theorem esc_8 (nar : Bool) : escP nar 8 = [92, 98] := by unfold escP; rw [if_pos (by decide)]; rfl
theorem esc_9 (nar : Bool) : escP nar 9 = [92, 116] := by unfold escP; rw [if_pos (by decide)]; rfl
theorem esc_10 (nar : Bool) : escP nar 10 = [92, 110] := by unfold escP; rw [if_pos (by decide)]; rfl
theorem esc_12 (nar : Bool) : escP nar 12 = [92, 102] := by unfold escP; rw [if_pos (by decide)]; rfl
theorem esc_13 (nar : Bool) : escP nar 13 = [92, 114] := by unfold escP; rw [if_pos (by decide)]; rfl
theorem esc_not {c : Nat} (h : c ≠ 34 ∧ c ≠ 92 ∧ c ≠ 8 ∧ c ≠ 9 ∧ c ≠ 10 ∧ c ≠ 12 ∧ c ≠ 13) : ¬ signsL.idxOf c < 7 := by
  intro hlt
  have hm : c ∈ signsL := List.idxOf_lt_length_iff.1 hlt
  simp only [signsL, List.mem_cons, List.not_mem_nil, or_false] at hm
  omega
set_option maxHeartbeats 16000000 in
theorem refquote_any (s : ByteArray) (cs : List Nat) (r : List UInt8) (nar : Bool) (w : World) (h : s.data.toList = flatC cs ++ r) (hc : ∀ c ∈ cs, okc c) (hr : halt r) (hs : s.size ≤ 60000) :
    Calls Try.prog 10 #[.string s, .bool nar] w fun e w' => e = .returned (rquoR nar cs r) ∧ Below w.heap.size w w' := by
  have HV := Lib.hid (refbad_any s cs r w h hc hr (by omega))
  unfold rquoR
  by_cases hr0 : r = []
  rotate_left
  · rw [if_neg hr0]
    unfold badP at HV
    rw [if_neg hr0] at HV
    obtain ⟨m, hm⟩ : ∃ m, (flatC cs).length = m := ⟨_, rfl⟩
    rw [hm] at HV
    have d1 : decide ((0 : Int) ≤ (m : Int)) = true := decide_eq_true (by omega)
    clear h hc hr hs hr0 hm
    go_enter Try.func10, Try.ntmps10
    go_wp2_with fail
    refine HV.out.mono ?_
    rintro e w1 ⟨rfl, rfl⟩
    go_wp2_with fail
    go_ret2
    exact ⟨rfl, Below.refl _ _⟩
  · rw [if_pos hr0]
    unfold badP at HV
    rw [if_pos hr0] at HV
    subst hr0
    rw [List.append_nil] at h
    have hsz : s.size = (flatC cs).length := by rw [Lib.size_eq, h]
    have HS := Lib.hid (And.intro h (And.intro hc (And.intro hs hsz)))
    clear h hc hr hs hsz
    go_enter Try.func10, Try.ntmps10
    go_wp2_with fail
    refine HV.out.mono ?_
    rintro e w1 ⟨rfl, hw1⟩
    subst hw1
    clear HV
    go_wp2_with fail
    have hown : Own (w1.alloc (.cells #[.int .u8 34] 5)) w1.heap.size (.slice (some ⟨w1.heap.size, 0, none⟩) 1 1) [34] := Own.lit w1 #[.int .u8 34] [34] 1 rfl rfl (by decide)
    have HO := Lib.hid hown
    have HB := Lib.hid (below_make (World.grownBy_alloc w1 (.cells #[.int .u8 34] 5) none))
    clear hown
    generalize w1.alloc (.cells #[.int .u8 34] 5) = w0 at HO HB ⊢
    go_loopw [6, 7] (fun b a wr => QInv w1 nar cs b a wr) (fun _ a _ => s.size - (intOf a).toNat)
    case atStart => exact ⟨[], cs, _, 1, 1, 0, rfl, rfl, rfl, rfl, HO.out, HB.out⟩
    case round =>
      clear HO HB
      obtain ⟨c1, c2, A, n, k, p, hcs, rfl, rfl, hp, ho, hbw⟩ := hrel
      have hdrop : s.data.toList.drop p = flatC c2 := by
        rw [HS.out.1, ← hcs, flatC_append, ← hp]
        exact List.drop_left' rfl
      have hlen : (34 :: c1.flatMap (escP nar)).length ≤ 800000 := by
        have h1 := escs_le nar c1
        have h2 := flat_le c1
        have h3 := HS.out.2.2.1
        have h4 := HS.out.2.2.2
        rw [← hcs, flatC_append, List.length_append] at h4
        rw [List.length_cons]
        omega
      have HP := Lib.hid hp
      have HW := Lib.hid (And.intro hcs (And.intro hbw (And.intro ho (And.intro hlen hbw.size))))
      clear hcs hbw ho hlen hp
      cases c2 with
      | nil =>
        have hnp : ¬ p < s.size := by
          intro hlt
          have := congrArg List.length hdrop
          rw [List.length_drop, ← Lib.size_eq] at this
          simp [flatC] at this
          omega
        have d1 : decide ((p : Int) < (s.size : Int)) = false := decide_eq_false (by omega)
        have d1n : decide (p < s.size) = false := decide_eq_false (by omega)
        have HQ : RowKit.Hid (quoP nar cs = (34 :: c1.flatMap (escP nar)) ++ [34]) := Lib.hid (by rw [← HW.out.1, List.append_nil]; rfl)
        obtain ⟨Z, hZ⟩ : ∃ Z, 34 :: c1.flatMap (escP nar) = Z := ⟨_, rfl⟩
        rw [hZ] at HW HQ
        clear hdrop hnp hZ
        go_wp2_with (at_builtin; refine push8 _ rfl (.tmp 98) (.tmp 99) rfl w1.heap.size (.slice A n k) _ [34] _ 1 rfl rfl HW.out.2.2.1 rfl rfl HW.out.2.2.2.2 (by have := HW.out.2.2.2.1; omega) ?_)
        intro v' w' h1 h2 _
        obtain ⟨A2, k2, hv2⟩ := h1.slice
        obtain ⟨Q, hQ⟩ : ∃ Q, Z ++ [34] = Q := ⟨_, rfl⟩
        rw [hQ] at h1 hv2 HQ
        obtain ⟨m, hm⟩ : ∃ m, Q.length = m := ⟨_, rfl⟩
        rw [hm] at hv2
        subst hv2
        have hst := str8 w' w'.heap.size A2 m k2 Q (by have := h1.rd.2; exact this)
        clear hQ hm
        have HB2 := Lib.hid (HW.out.2.1.trans (Own.grown HW.out.2.2.1 h2 (Below.refl w1.heap.size _) HW.out.2.2.2.2))
        clear h1 h2
        go_wp2_with fail
        go_ret2
        exact ⟨by rw [HQ.out]; rfl, HB2.out⟩
      | cons c c2 =>
        have hpl : p < s.size := by
          have := congrArg List.length hdrop
          rw [List.length_drop, ← Lib.size_eq, flatC_cons, List.length_append, encB_length] at this
          have := (widC_pos c).1
          omega
        have hps : p ≤ s.size := Nat.le_of_lt hpl
        have d1 : decide ((p : Int) < (s.size : Int)) = true := decide_eq_true (by omega)
        have d1n : decide (p < s.size) = true := decide_eq_true hpl
        have hpb : p ≤ 60000 := by have := HS.out.2.2.1; omega
        have hok : okc c := HS.out.2.1 c (by rw [← HW.out.1]; simp)
        rw [flatC_cons] at hdrop
        have hkl : p + widC c ≤ s.size := by
          have := congrArg List.length hdrop
          rw [List.length_drop, ← Lib.size_eq, List.length_append, encB_length] at this
          omega
        have HM := Lib.hid (And.intro (widC_pos c).1 hkl)
        have HG := Lib.hid (fun wx => sign_at s p c _ hdrop hok wx)
        have HD := Lib.hid (And.intro hdrop hok)
        clear hdrop hok hkl hpl
        obtain ⟨Z, hZ⟩ : ∃ Z, 34 :: c1.flatMap (escP nar) = Z := ⟨_, rfl⟩
        have HST := Lib.hid (fun (w3 : World) (v : Value) (z : Int) => QInv.step (w := w1) (w3 := w3) (nar := nar) (v := v) (z := z) HW.out.1 HP.out)
        rw [hZ] at HW HST
        clear hZ
        by_cases q34 : c = 34
        · subst q34
          have HG : RowKit.Hid (∀ wx, Calls Try.prog 12 #[.string (s.extract p s.size)] wx fun e w' => e = .returned (.tuple #[.int .i64 34, .int .i64 1]) ∧ w' = wx) := Lib.hid HG.out
          go_wp2_with fail
          refine (HG.out _).mono ?_
          rintro e wz ⟨rfl, hwz⟩
          subst hwz
          go_wp2_with (at_builtin; refine push8 _ rfl (.tmp 53) (.tmp 55) rfl w1.heap.size (.slice A n k) Z [92, 34] _ 2 rfl rfl HW.out.2.2.1 rfl rfl HW.out.2.2.2.2 (by have := HW.out.2.2.2.1; omega) ?_)
          intro v' w' h1 h2 _
          obtain ⟨A2, k2, hv2⟩ := h1.slice
          obtain ⟨m, hm⟩ : ∃ m, (Z ++ ([92, 34] : List UInt8)).length = m := ⟨_, rfl⟩
          rw [hm] at hv2
          subst hv2
          have HR := Lib.hid (And.intro h1 (HW.out.2.1.trans (Own.grown HW.out.2.2.1 h2 (Below.refl w1.heap.size _) HW.out.2.2.2.2)))
          clear h1 h2 HG hm
          go_wp2_with fail
          go_roundw
          case rel => exact HST.out _ _ _ (by rfl) (by rw [esc_34]; exact HR.out.1) HR.out.2
          case measure => have h1 := HM.out.2; have h2 : widC 34 = 1 := rfl; rw [h2] at h1; simp [intOf]; omega
        by_cases q92 : c = 92
        · subst q92
          have HG : RowKit.Hid (∀ wx, Calls Try.prog 12 #[.string (s.extract p s.size)] wx fun e w' => e = .returned (.tuple #[.int .i64 92, .int .i64 1]) ∧ w' = wx) := Lib.hid HG.out
          go_wp2_with fail
          refine (HG.out _).mono ?_
          rintro e wz ⟨rfl, hwz⟩
          subst hwz
          go_wp2_with (at_builtin; refine push8 _ rfl (.tmp 53) (.tmp 55) rfl w1.heap.size (.slice A n k) Z [92, 92] _ 2 rfl rfl HW.out.2.2.1 rfl rfl HW.out.2.2.2.2 (by have := HW.out.2.2.2.1; omega) ?_)
          intro v' w' h1 h2 _
          obtain ⟨A2, k2, hv2⟩ := h1.slice
          obtain ⟨m, hm⟩ : ∃ m, (Z ++ ([92, 92] : List UInt8)).length = m := ⟨_, rfl⟩
          rw [hm] at hv2
          subst hv2
          have HR := Lib.hid (And.intro h1 (HW.out.2.1.trans (Own.grown HW.out.2.2.1 h2 (Below.refl w1.heap.size _) HW.out.2.2.2.2)))
          clear h1 h2 HG hm
          go_wp2_with fail
          go_roundw
          case rel => exact HST.out _ _ _ (by rfl) (by rw [esc_92]; exact HR.out.1) HR.out.2
          case measure => have h1 := HM.out.2; have h2 : widC 92 = 1 := rfl; rw [h2] at h1; simp [intOf]; omega
        by_cases q8 : c = 8
        · subst q8
          have HG : RowKit.Hid (∀ wx, Calls Try.prog 12 #[.string (s.extract p s.size)] wx fun e w' => e = .returned (.tuple #[.int .i64 8, .int .i64 1]) ∧ w' = wx) := Lib.hid HG.out
          go_wp2_with fail
          refine (HG.out _).mono ?_
          rintro e wz ⟨rfl, hwz⟩
          subst hwz
          go_wp2_with (at_builtin; refine push8 _ rfl (.tmp 53) (.tmp 55) rfl w1.heap.size (.slice A n k) Z [92, 98] _ 2 rfl rfl HW.out.2.2.1 rfl rfl HW.out.2.2.2.2 (by have := HW.out.2.2.2.1; omega) ?_)
          intro v' w' h1 h2 _
          obtain ⟨A2, k2, hv2⟩ := h1.slice
          obtain ⟨m, hm⟩ : ∃ m, (Z ++ ([92, 98] : List UInt8)).length = m := ⟨_, rfl⟩
          rw [hm] at hv2
          subst hv2
          have HR := Lib.hid (And.intro h1 (HW.out.2.1.trans (Own.grown HW.out.2.2.1 h2 (Below.refl w1.heap.size _) HW.out.2.2.2.2)))
          clear h1 h2 HG hm
          go_wp2_with fail
          go_roundw
          case rel => exact HST.out _ _ _ (by rfl) (by rw [esc_8]; exact HR.out.1) HR.out.2
          case measure => have h1 := HM.out.2; have h2 : widC 8 = 1 := rfl; rw [h2] at h1; simp [intOf]; omega
        by_cases q9 : c = 9
        · subst q9
          have HG : RowKit.Hid (∀ wx, Calls Try.prog 12 #[.string (s.extract p s.size)] wx fun e w' => e = .returned (.tuple #[.int .i64 9, .int .i64 1]) ∧ w' = wx) := Lib.hid HG.out
          go_wp2_with fail
          refine (HG.out _).mono ?_
          rintro e wz ⟨rfl, hwz⟩
          subst hwz
          go_wp2_with (at_builtin; refine push8 _ rfl (.tmp 53) (.tmp 55) rfl w1.heap.size (.slice A n k) Z [92, 116] _ 2 rfl rfl HW.out.2.2.1 rfl rfl HW.out.2.2.2.2 (by have := HW.out.2.2.2.1; omega) ?_)
          intro v' w' h1 h2 _
          obtain ⟨A2, k2, hv2⟩ := h1.slice
          obtain ⟨m, hm⟩ : ∃ m, (Z ++ ([92, 116] : List UInt8)).length = m := ⟨_, rfl⟩
          rw [hm] at hv2
          subst hv2
          have HR := Lib.hid (And.intro h1 (HW.out.2.1.trans (Own.grown HW.out.2.2.1 h2 (Below.refl w1.heap.size _) HW.out.2.2.2.2)))
          clear h1 h2 HG hm
          go_wp2_with fail
          go_roundw
          case rel => exact HST.out _ _ _ (by rfl) (by rw [esc_9]; exact HR.out.1) HR.out.2
          case measure => have h1 := HM.out.2; have h2 : widC 9 = 1 := rfl; rw [h2] at h1; simp [intOf]; omega
        by_cases q10 : c = 10
        · subst q10
          have HG : RowKit.Hid (∀ wx, Calls Try.prog 12 #[.string (s.extract p s.size)] wx fun e w' => e = .returned (.tuple #[.int .i64 10, .int .i64 1]) ∧ w' = wx) := Lib.hid HG.out
          go_wp2_with fail
          refine (HG.out _).mono ?_
          rintro e wz ⟨rfl, hwz⟩
          subst hwz
          go_wp2_with (at_builtin; refine push8 _ rfl (.tmp 53) (.tmp 55) rfl w1.heap.size (.slice A n k) Z [92, 110] _ 2 rfl rfl HW.out.2.2.1 rfl rfl HW.out.2.2.2.2 (by have := HW.out.2.2.2.1; omega) ?_)
          intro v' w' h1 h2 _
          obtain ⟨A2, k2, hv2⟩ := h1.slice
          obtain ⟨m, hm⟩ : ∃ m, (Z ++ ([92, 110] : List UInt8)).length = m := ⟨_, rfl⟩
          rw [hm] at hv2
          subst hv2
          have HR := Lib.hid (And.intro h1 (HW.out.2.1.trans (Own.grown HW.out.2.2.1 h2 (Below.refl w1.heap.size _) HW.out.2.2.2.2)))
          clear h1 h2 HG hm
          go_wp2_with fail
          go_roundw
          case rel => exact HST.out _ _ _ (by rfl) (by rw [esc_10]; exact HR.out.1) HR.out.2
          case measure => have h1 := HM.out.2; have h2 : widC 10 = 1 := rfl; rw [h2] at h1; simp [intOf]; omega
        by_cases q12 : c = 12
        · subst q12
          have HG : RowKit.Hid (∀ wx, Calls Try.prog 12 #[.string (s.extract p s.size)] wx fun e w' => e = .returned (.tuple #[.int .i64 12, .int .i64 1]) ∧ w' = wx) := Lib.hid HG.out
          go_wp2_with fail
          refine (HG.out _).mono ?_
          rintro e wz ⟨rfl, hwz⟩
          subst hwz
          go_wp2_with (at_builtin; refine push8 _ rfl (.tmp 53) (.tmp 55) rfl w1.heap.size (.slice A n k) Z [92, 102] _ 2 rfl rfl HW.out.2.2.1 rfl rfl HW.out.2.2.2.2 (by have := HW.out.2.2.2.1; omega) ?_)
          intro v' w' h1 h2 _
          obtain ⟨A2, k2, hv2⟩ := h1.slice
          obtain ⟨m, hm⟩ : ∃ m, (Z ++ ([92, 102] : List UInt8)).length = m := ⟨_, rfl⟩
          rw [hm] at hv2
          subst hv2
          have HR := Lib.hid (And.intro h1 (HW.out.2.1.trans (Own.grown HW.out.2.2.1 h2 (Below.refl w1.heap.size _) HW.out.2.2.2.2)))
          clear h1 h2 HG hm
          go_wp2_with fail
          go_roundw
          case rel => exact HST.out _ _ _ (by rfl) (by rw [esc_12]; exact HR.out.1) HR.out.2
          case measure => have h1 := HM.out.2; have h2 : widC 12 = 1 := rfl; rw [h2] at h1; simp [intOf]; omega
        by_cases q13 : c = 13
        · subst q13
          have HG : RowKit.Hid (∀ wx, Calls Try.prog 12 #[.string (s.extract p s.size)] wx fun e w' => e = .returned (.tuple #[.int .i64 13, .int .i64 1]) ∧ w' = wx) := Lib.hid HG.out
          go_wp2_with fail
          refine (HG.out _).mono ?_
          rintro e wz ⟨rfl, hwz⟩
          subst hwz
          go_wp2_with (at_builtin; refine push8 _ rfl (.tmp 53) (.tmp 55) rfl w1.heap.size (.slice A n k) Z [92, 114] _ 2 rfl rfl HW.out.2.2.1 rfl rfl HW.out.2.2.2.2 (by have := HW.out.2.2.2.1; omega) ?_)
          intro v' w' h1 h2 _
          obtain ⟨A2, k2, hv2⟩ := h1.slice
          obtain ⟨m, hm⟩ : ∃ m, (Z ++ ([92, 114] : List UInt8)).length = m := ⟨_, rfl⟩
          rw [hm] at hv2
          subst hv2
          have HR := Lib.hid (And.intro h1 (HW.out.2.1.trans (Own.grown HW.out.2.2.1 h2 (Below.refl w1.heap.size _) HW.out.2.2.2.2)))
          clear h1 h2 HG hm
          go_wp2_with fail
          go_roundw
          case rel => exact HST.out _ _ _ (by rfl) (by rw [esc_13]; exact HR.out.1) HR.out.2
          case measure => have h1 := HM.out.2; have h2 : widC 13 = 1 := rfl; rw [h2] at h1; simp [intOf]; omega
        have hn := esc_not ⟨q34, q92, q8, q9, q10, q12, q13⟩
        obtain ⟨kw, hkw⟩ : ∃ kw, widC c = kw := ⟨_, rfl⟩
        have HKW := Lib.hid hkw
        have hk4 : kw ≤ 4 := by rw [← hkw]; exact (widC_pos c).2
        rw [hkw] at HG HM
        have hcm : c ≤ 1114111 := by have := HD.out.2; unfold okc at this; omega
        have i34 : ((c : Int) == 34) = false := by rw [beq_eq_false_iff_ne]; omega
        have i92 : ((c : Int) == 92) = false := by rw [beq_eq_false_iff_ne]; omega
        have i8 : ((c : Int) == 8) = false := by rw [beq_eq_false_iff_ne]; omega
        have i9 : ((c : Int) == 9) = false := by rw [beq_eq_false_iff_ne]; omega
        have i10 : ((c : Int) == 10) = false := by rw [beq_eq_false_iff_ne]; omega
        have i12 : ((c : Int) == 12) = false := by rw [beq_eq_false_iff_ne]; omega
        have i13 : ((c : Int) == 13) = false := by rw [beq_eq_false_iff_ne]; omega
        clear hkw q34 q92 q8 q9 q10 q12 q13
        by_cases g1 : c < 32
        · have HE : RowKit.Hid (escP nar c = fourL c) := Lib.hid (by unfold escP; rw [if_neg hn, if_neg (by omega), if_pos (by omega)])
          have d32 : decide ((c : Int) < 32) = true := decide_eq_true (by omega)
          have HF4 := Lib.hid (fun w => four_ref c w (by omega))
          clear hn
          go_wp2_with fail
          refine (HG.out _).mono ?_
          rintro e wz ⟨rfl, hwz⟩
          subst hwz
          go_wp2_with fail
          refine (HF4.out _).mono ?_
          rintro e w4 ⟨v4, rfl, h41, h42⟩
          obtain ⟨A4, k4, hv4⟩ := h41.slice
          rw [four_len] at hv4
          subst hv4
          have HO4 := Lib.hid (And.intro h41 (And.intro (below_make h42) (And.intro (HW.out.2.2.1.kept (below_make h42)) h42.size)))
          clear h41 h42
          go_wp2_with (at_builtin; refine cat8 w4 rfl (.tmp 71) (.tmp 73) rfl w1.heap.size w4.heap.size (.slice A n k) Z (fourL c) A4 6 k4 rfl rfl HO4.out.2.2.1 HO4.out.1.rd.2 (noCap' HO4.out.1) (Nat.le_trans HW.out.2.2.2.2 HO4.out.2.2.2) (by have := HW.out.2.2.2.1; omega) ?_)
          intro v' w' h1 h2 _
          obtain ⟨A2, k2, hv2⟩ := h1.slice
          obtain ⟨m, hm⟩ : ∃ m, (Z ++ fourL c).length = m := ⟨_, rfl⟩
          rw [hm] at hv2
          subst hv2
          have HR := Lib.hid (And.intro h1 (HW.out.2.1.trans ((HO4.out.2.1.mono HW.out.2.2.2.2).trans (Own.grown HO4.out.2.2.1 h2 (Below.refl w1.heap.size _) (Nat.le_trans HW.out.2.2.2.2 HO4.out.2.2.2)))))
          clear h1 h2 HG hm
          go_wp2_with fail
          go_roundw
          case rel => exact HST.out _ _ _ (by rw [HKW.out]) (by rw [HE.out]; exact HR.out.1) HR.out.2
          case measure => have h1 := HM.out.1; have h2 := HM.out.2; simp [intOf]; omega
        · have d32 : decide ((c : Int) < 32) = false := decide_eq_false (by omega)
          cases nar
          · have HE : RowKit.Hid (escP false c = encB c) := Lib.hid (by unfold escP; rw [if_neg hn, if_pos ⟨by omega, .inr rfl⟩])
            have HCO := Lib.hid (ext_list s p (p + kw))
            rw [HD.out.1, Nat.add_sub_cancel_left, List.take_left' (by rw [encB_length, HKW.out])] at HCO
            have hkl : p + kw ≤ s.size := HM.out.2
            have hpk : p ≤ p + kw := Nat.le_add_right _ _
            clear hn
            go_wp2_with fail
            refine (HG.out _).mono ?_
            rintro e wz ⟨rfl, hwz⟩
            subst hwz
            go_wp2_with (at_builtin; refine catS _ rfl (.tmp 42) (.tmp 48) rfl w1.heap.size (.slice A n k) Z (s.extract p (p + kw)) rfl rfl HW.out.2.2.1 HW.out.2.2.2.2 (by have h1 := HW.out.2.2.2.1; have h2 := congrArg List.length HCO.out; rw [← Lib.size_eq, encB_length, HKW.out] at h2; omega) ?_)
            intro v' w' h1 h2
            rw [HD.out.1, List.take_left' (by rw [encB_length, HKW.out])] at h1
            obtain ⟨A2, k2, hv2⟩ := h1.slice
            obtain ⟨m, hm⟩ : ∃ m, (Z ++ encB c).length = m := ⟨_, rfl⟩
            rw [hm] at hv2
            subst hv2
            have HR := Lib.hid (And.intro h1 (HW.out.2.1.trans (Own.grown HW.out.2.2.1 h2 (Below.refl w1.heap.size _) HW.out.2.2.2.2)))
            clear h1 h2 HG hm
            go_wp2_with fail
            go_roundw
            case rel => exact HST.out _ _ _ (by rw [HKW.out]) (by rw [HE.out]; exact HR.out.1) HR.out.2
            case measure => have h1 := HM.out.1; have h2 := HM.out.2; simp [intOf]; omega
          · by_cases g2 : c < 127
            · have HE : RowKit.Hid (escP true c = encB c) := Lib.hid (by unfold escP; rw [if_neg hn, if_pos ⟨by omega, .inl g2⟩])
              have d127 : decide ((127 : Int) ≤ (c : Int)) = false := decide_eq_false (by omega)
              have HCO := Lib.hid (ext_list s p (p + kw))
              rw [HD.out.1, Nat.add_sub_cancel_left, List.take_left' (by rw [encB_length, HKW.out])] at HCO
              have hkl : p + kw ≤ s.size := HM.out.2
              have hpk : p ≤ p + kw := Nat.le_add_right _ _
              clear hn
              go_wp2_with fail
              refine (HG.out _).mono ?_
              rintro e wz ⟨rfl, hwz⟩
              subst hwz
              go_wp2_with (at_builtin; refine catS _ rfl (.tmp 42) (.tmp 48) rfl w1.heap.size (.slice A n k) Z (s.extract p (p + kw)) rfl rfl HW.out.2.2.1 HW.out.2.2.2.2 (by have h1 := HW.out.2.2.2.1; have h2 := congrArg List.length HCO.out; rw [← Lib.size_eq, encB_length, HKW.out] at h2; omega) ?_)
              intro v' w' h1 h2
              rw [HD.out.1, List.take_left' (by rw [encB_length, HKW.out])] at h1
              obtain ⟨A2, k2, hv2⟩ := h1.slice
              obtain ⟨m, hm⟩ : ∃ m, (Z ++ encB c).length = m := ⟨_, rfl⟩
              rw [hm] at hv2
              subst hv2
              have HR := Lib.hid (And.intro h1 (HW.out.2.1.trans (Own.grown HW.out.2.2.1 h2 (Below.refl w1.heap.size _) HW.out.2.2.2.2)))
              clear h1 h2 HG hm
              go_wp2_with fail
              go_roundw
              case rel => exact HST.out _ _ _ (by rw [HKW.out]) (by rw [HE.out]; exact HR.out.1) HR.out.2
              case measure => have h1 := HM.out.1; have h2 := HM.out.2; simp [intOf]; omega
            · have d127 : decide ((127 : Int) ≤ (c : Int)) = true := decide_eq_true (by omega)
              by_cases g3 : c < 65536
              · have HE : RowKit.Hid (escP true c = fourL c) := Lib.hid (by unfold escP; rw [if_neg hn, if_neg (by simp; omega), if_pos g3])
                have d65 : decide ((c : Int) < 65536) = true := decide_eq_true (by omega)
                have HF4 := Lib.hid (fun w => four_ref c w (by omega))
                clear hn
                go_wp2_with fail
                refine (HG.out _).mono ?_
                rintro e wz ⟨rfl, hwz⟩
                subst hwz
                go_wp2_with fail
                refine (HF4.out _).mono ?_
                rintro e w4 ⟨v4, rfl, h41, h42⟩
                obtain ⟨A4, k4, hv4⟩ := h41.slice
                rw [four_len] at hv4
                subst hv4
                have HO4 := Lib.hid (And.intro h41 (And.intro (below_make h42) (And.intro (HW.out.2.2.1.kept (below_make h42)) h42.size)))
                clear h41 h42
                go_wp2_with (at_builtin; refine cat8 w4 rfl (.tmp 71) (.tmp 73) rfl w1.heap.size w4.heap.size (.slice A n k) Z (fourL c) A4 6 k4 rfl rfl HO4.out.2.2.1 HO4.out.1.rd.2 (noCap' HO4.out.1) (Nat.le_trans HW.out.2.2.2.2 HO4.out.2.2.2) (by have := HW.out.2.2.2.1; omega) ?_)
                intro v' w' h1 h2 _
                obtain ⟨A2, k2, hv2⟩ := h1.slice
                obtain ⟨m, hm⟩ : ∃ m, (Z ++ fourL c).length = m := ⟨_, rfl⟩
                rw [hm] at hv2
                subst hv2
                have HR := Lib.hid (And.intro h1 (HW.out.2.1.trans ((HO4.out.2.1.mono HW.out.2.2.2.2).trans (Own.grown HO4.out.2.2.1 h2 (Below.refl w1.heap.size _) (Nat.le_trans HW.out.2.2.2.2 HO4.out.2.2.2)))))
                clear h1 h2 HG hm
                go_wp2_with fail
                go_roundw
                case rel => exact HST.out _ _ _ (by rw [HKW.out]) (by rw [HE.out]; exact HR.out.1) HR.out.2
                case measure => have h1 := HM.out.1; have h2 := HM.out.2; simp [intOf]; omega
              · obtain ⟨pp, hpp⟩ : ∃ pp, c - 65536 = pp := ⟨_, rfl⟩
                obtain ⟨x1, hx1⟩ : ∃ x1, 55296 + pp / 1024 = x1 := ⟨_, rfl⟩
                obtain ⟨x2, hx2⟩ : ∃ x2, 56320 + pp % 1024 = x2 := ⟨_, rfl⟩
                have HE : RowKit.Hid (escP true c = fourL x1 ++ fourL x2) := Lib.hid (by unfold escP; rw [if_neg hn, if_neg (by simp; omega), if_neg g3, hpp, hx1, hx2])
                have d65 : decide ((c : Int) < 65536) = false := decide_eq_false (by omega)
                have e0 : (c : Int) - 65536 = (pp : Int) := by omega
                have e2 : (55296 : Int) + (pp : Int) / 1024 = (x1 : Int) := by omega
                have e3 : (56320 : Int) + (pp : Int) % 1024 = (x2 : Int) := by omega
                have hpm : pp < 1048576 := by omega
                have HF4 := Lib.hid (fun w => four_ref x1 w (by omega))
                have HF5 := Lib.hid (fun w => four_ref x2 w (by omega))
                clear hn hpp hx1 hx2
                go_wp2_with fail
                refine (HG.out _).mono ?_
                rintro e wz ⟨rfl, hwz⟩
                subst hwz
                go_wp2_with fail
                refine (HF4.out _).mono ?_
                rintro e w4 ⟨v4, rfl, h41, h42⟩
                obtain ⟨A4, k4, hv4⟩ := h41.slice
                rw [four_len] at hv4
                subst hv4
                have HO4 := Lib.hid (And.intro h41 (And.intro (below_make h42) (And.intro (HW.out.2.2.1.kept (below_make h42)) h42.size)))
                clear h41 h42
                go_wp2_with (at_builtin; refine cat8 w4 rfl (.tmp 81) (.tmp 86) rfl w1.heap.size w4.heap.size (.slice A n k) Z (fourL x1) A4 6 k4 rfl rfl HO4.out.2.2.1 HO4.out.1.rd.2 (noCap' HO4.out.1) (Nat.le_trans HW.out.2.2.2.2 HO4.out.2.2.2) (by have := HW.out.2.2.2.1; omega) ?_)
                intro v5 w5 h1 h2 _
                obtain ⟨A5, k5, hv5⟩ := h1.slice
                obtain ⟨m5, hm5⟩ : ∃ m5, (Z ++ fourL x1).length = m5 := ⟨_, rfl⟩
                have hm6 : m5 ≤ 800006 := by rw [← hm5, List.length_append, four_len]; have := HW.out.2.2.2.1; omega
                rw [hm5] at hv5
                subst hv5
                have HO5 := Lib.hid (And.intro h1 (And.intro (HW.out.2.1.trans ((HO4.out.2.1.mono HW.out.2.2.2.2).trans (Own.grown HO4.out.2.2.1 h2 (Below.refl w1.heap.size _) (Nat.le_trans HW.out.2.2.2.2 HO4.out.2.2.2)))) (And.intro (Nat.le_trans HW.out.2.2.2.2 (Nat.le_trans HO4.out.2.2.2 h2.size)) (hm5 ▸ hm6 : (Z ++ fourL x1).length ≤ 800006))))
                clear h1 h2 hm5 hm6
                go_wp2_with fail
                refine (HF5.out _).mono ?_
                rintro e w6 ⟨v6, rfl, h61, h62⟩
                obtain ⟨A6, k6, hv6⟩ := h61.slice
                rw [four_len] at hv6
                subst hv6
                have HO6 := Lib.hid (And.intro h61 (And.intro (below_make h62) (And.intro (HO5.out.1.kept (below_make h62)) h62.size)))
                clear h61 h62
                go_wp2_with (at_builtin; refine cat8 w6 rfl (.tmp 88) (.tmp 93) rfl w1.heap.size w6.heap.size (.slice A5 m5 k5) (Z ++ fourL x1) (fourL x2) A6 6 k6 rfl rfl HO6.out.2.2.1 HO6.out.1.rd.2 (noCap' HO6.out.1) (Nat.le_trans HO5.out.2.2.1 HO6.out.2.2.2) (by have := HO5.out.2.2.2; omega) ?_)
                intro v' w' h1 h2 _
                obtain ⟨A2, k2, hv2⟩ := h1.slice
                obtain ⟨m, hm⟩ : ∃ m, (Z ++ (fourL x1 ++ fourL x2)).length = m := ⟨_, rfl⟩
                rw [hm] at hv2
                subst hv2
                have HR := Lib.hid (And.intro h1 (HO5.out.2.1.trans ((HO6.out.2.1.mono HO5.out.2.2.1).trans (Own.grown HO6.out.2.2.1 h2 (Below.refl w1.heap.size _) (Nat.le_trans HO5.out.2.2.1 HO6.out.2.2.2)))))
                clear h1 h2 HG hm
                go_wp2_with fail
                go_roundw
                case rel => exact HST.out _ _ _ (by rw [HKW.out]) (by rw [HE.out]; exact HR.out.1) HR.out.2
                case measure => have h1 := HM.out.1; have h2 := HM.out.2; simp [intOf]; omega
end Go.Proofs.Ytanmkddmebhdpaa
