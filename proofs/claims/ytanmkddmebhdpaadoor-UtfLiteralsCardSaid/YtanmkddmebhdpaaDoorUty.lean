/- What an escape that is right is made of; contract of mustStand. -/
import Derived.Test.YtanmkddmebhdpaaDoorUth
namespace Go.Proofs.YtanmkddmebhdpaaDoor
set_option maxRecDepth 20000
open Go.RowKit Go.Lib

/-- The first k bytes are below 128. -/
def low (k : Nat) (l : List UInt8) : Prop := ∀ j, j < k → ∃ u, l[j]? = some u ∧ u.toNat < 128
theorem low_cons {k : Nat} {u : UInt8} {l : List UInt8} (hu : u.toNat < 128) (h : low k l) : low (k + 1) (u :: l) := by
  intro j hj
  cases j with
  | zero => exact ⟨u, rfl, hu⟩
  | succ j => exact h j (by omega)
theorem low_drop {i k : Nat} {l : List UInt8} (h : low (i + k) l) : low k (l.drop i) := by
  intro j hj
  obtain ⟨u, h1, h2⟩ := h (i + j) (by omega)
  exact ⟨u, by rw [List.getElem?_drop]; exact h1, h2⟩
theorem low_join {i k : Nat} {l : List UInt8} (h1 : low i l) (h2 : low k (l.drop i)) : low (i + k) l := by
  intro j hj
  by_cases hji : j < i
  · exact h1 j hji
  · obtain ⟨u, h3, h4⟩ := h2 (j - i) (by omega)
    rw [List.getElem?_drop, show i + (j - i) = j by omega] at h3
    exact ⟨u, h3, h4⟩
theorem valF_low (u : UInt8) (v : Nat) (h : valF u = some v) : u.toNat < 128 := by
  unfold valF at h
  repeat' split at h
  all_goals first | omega | cases h
theorem numF_low (bad : Nat) : ∀ (k : Nat) (l : List UInt8) (x n : Nat), numF bad k l x = .ok n → low k l
  | 0, _, _, _, _ => fun j hj => by omega
  | k + 1, [], x, n, h => by cases h
  | k + 1, u :: l, x, n, h => by
    have h0 : numF bad (k + 1) (u :: l) x = match valF u with | none => .error bad | some v => numF bad k l (x * 16 + v) := rfl
    rw [h0] at h
    cases hv : valF u with
    | none => rw [hv] at h; cases h
    | some v =>
      rw [hv] at h
      exact low_cons (valF_low u v hv) (numF_low bad k l _ n h)
theorem halfF_low {l : List UInt8} {x : Nat} (h : halfF l = .ok x) : low 6 l := by
  match l with
  | [] => cases h
  | a :: l1 =>
    have e1 : halfF (a :: l1) = if a ≠ 92 then .error 9 else halfG l1 := rfl
    rw [e1] at h
    split at h
    · cases h
    · rename_i ha
      match l1 with
      | [] => cases h
      | b :: l2 =>
        have e2 : halfG (b :: l2) = if b ≠ 117 then .error 9 else halfH l2 := rfl
        rw [e2] at h
        split at h
        · cases h
        · rename_i hb
          unfold halfH at h
          split at h
          · cases h
          · rename_i n hn
            have ha : a = 92 := Decidable.not_not.1 ha
            have hb : b = 117 := Decidable.not_not.1 hb
            subst ha
            subst hb
            exact low_cons (by decide) (low_cons (by decide) (numF_low 9 4 l2 0 n hn))
/-- An escape that is right: a right sign, not more bytes than the escape has, bytes below 128 alone. -/
theorem escF_ok {l : List UInt8} {c m : Nat} (h : escF l = .ok (c, m)) : okc c ∧ widC c ≤ m ∧ 2 ≤ m ∧ low (m - 1) l := by
  match l with
  | [] => cases h
  | a :: l1 =>
    rw [escF_cons] at h
    split at h
    · rename_i ha
      subst ha
      unfold numberedF at h
      split at h
      · cases h
      · rename_i n hn
        have hb := (numF_ok hn).2
        have hl := numF_low 2 4 l1 0 n hn
        split at h
        · cases h
        · rename_i h1
          split at h
          · rename_i h2
            injection h with h
            injection h with hc hm
            subst hc
            subst hm
            refine ⟨by unfold okc; omega, ?_, by omega, low_cons (by decide) hl⟩
            unfold widC
            repeat' split
            all_goals omega
          · rename_i h2
            split at h
            · cases h
            · rename_i y hy
              have hyb := halfF_bound hy
              injection h with h
              injection h with hc hm
              subst hm
              refine ⟨by unfold okc; omega, by have := (widC_pos c).2; omega, by omega, low_cons (by decide) ?_⟩
              exact low_join (i := 4) (k := 6) hl (halfF_low hy)
    · split at h
      · rename_i ha
        subst ha
        injection h with h
        injection h with hc hm
        subst hc
        subst hm
        exact ⟨by decide, by decide, by omega, low_cons (by decide) (fun j hj => by omega)⟩
      · split at h
        · rename_i hi
          injection h with h
          injection h with hc hm
          subst hm
          have hm2 : a.toNat ∈ lettersL := List.idxOf_lt_length_iff.1 hi
          have ha : a.toNat < 128 := by
            simp only [lettersL, List.mem_cons, List.not_mem_nil, or_false] at hm2
            omega
          have key : ∀ i : Fin 7, okc (signsL.getD i.val 0) ∧ widC (signsL.getD i.val 0) ≤ 2 := by decide +kernel
          have hk := key ⟨_, hi⟩
          rw [← hc]
          exact ⟨hk.1, hk.2, by omega, low_cons ha (fun j hj => by omega)⟩
        · cases h
/-- What stands at a sign that is read as it is. -/
def standF (l : List UInt8) : Except Nat Unit :=
  if (decodeL l).1 < 32 then .error 2 else if decodeL l = (65533, 1) then .error (if fullP l then 9 else 10) else .ok ()
set_option maxHeartbeats 4000000 in
theorem stand_any (c : Nat) (t : ByteArray) (l : List UInt8) (w : World) (ht : t.data.toList = l) (hl : l ≠ []) (hc : (decodeL l).1 = c) (hT : TabsU w) :
    Calls Tryd.prog 27 #[.int .i32 (c : Int), .string t] w (XR w (standF l) fun _ => .tuple #[]) := by
  have HW := Lib.hid (fun w => wrong_any c t l w ht hl hc)
  have HF := Lib.hid (full_any t l w ht hT)
  have M2 := Lib.hid (fun w => must_ok 2 ⟨#[]⟩ w)
  have N2 := Lib.hid (fun w => must_no 2 ⟨#[]⟩ w)
  have M10 := Lib.hid (fun w => must_ok 10 ⟨#[]⟩ w)
  have N10 := Lib.hid (fun w => must_no 10 ⟨#[]⟩ w)
  have T9 := Lib.hid (fun w => throw_u 9 ⟨#[]⟩ w)
  unfold standF
  rw [hc]
  by_cases h1 : c < 32
  · rw [if_pos h1]
    have d1 : decide ((32 : Int) ≤ (c : Int)) = false := decide_eq_false (by omega)
    clear ht hl hc hT h1
    go_enter Tryd.func27, Tryd.ntmps27
    go_wp2_with fail
    refine (N2.out _).mono ?_
    rintro e w2 ⟨q, rfl, hq⟩
    exact ⟨rfl, .inl ⟨2, rfl, q, rfl, hq⟩⟩
  · rw [if_neg h1]
    have d1 : decide ((32 : Int) ≤ (c : Int)) = true := decide_eq_true (by omega)
    by_cases h2 : decodeL l = (65533, 1)
    · rw [if_pos h2]
      rw [decide_eq_true h2] at HW
      obtain ⟨b, hb⟩ : ∃ b, fullP l = b := ⟨_, rfl⟩
      rw [hb] at HF ⊢
      clear ht hl hc hT h1 h2 hb
      cases b
      · go_enter Tryd.func27, Tryd.ntmps27
        go_wp2_with fail
        refine (M2.out _).mono ?_
        rintro e wz ⟨rfl, rfl⟩
        go_wp2_with fail
        refine (HW.out _).mono ?_
        rintro e wz ⟨rfl, rfl⟩
        go_wp2_with fail
        refine HF.out.mono ?_
        rintro e w1 ⟨rfl, hb1⟩
        have HB := Lib.hid hb1
        clear hb1
        go_wp2_with fail
        refine (N10.out _).mono ?_
        rintro e w2 ⟨q, rfl, hq1, hq2, hq3, hq4⟩
        exact ⟨rfl, .inl ⟨10, rfl, q, rfl, hq1, HB.out.trans (hq2.mono HB.out.size), Nat.le_trans HB.out.size hq3, hq4⟩⟩
      · go_enter Tryd.func27, Tryd.ntmps27
        go_wp2_with fail
        refine (M2.out _).mono ?_
        rintro e wz ⟨rfl, rfl⟩
        go_wp2_with fail
        refine (HW.out _).mono ?_
        rintro e wz ⟨rfl, rfl⟩
        go_wp2_with fail
        refine HF.out.mono ?_
        rintro e w1 ⟨rfl, hb1⟩
        have HB := Lib.hid hb1
        clear hb1
        go_wp2_with fail
        refine (M10.out _).mono ?_
        rintro e wz ⟨rfl, rfl⟩
        go_wp2_with fail
        refine (T9.out _).mono ?_
        rintro e w2 ⟨q, rfl, hq1, hq2, hq3, hq4⟩
        exact ⟨rfl, .inl ⟨9, rfl, q, rfl, hq1, HB.out.trans (hq2.mono HB.out.size), Nat.le_trans HB.out.size hq3, hq4⟩⟩
    · rw [if_neg h2]
      rw [decide_eq_false h2] at HW
      clear ht hl hc hT h1 h2
      go_enter Tryd.func27, Tryd.ntmps27
      go_wp2_with fail
      refine (M2.out _).mono ?_
      rintro e wz ⟨rfl, rfl⟩
      go_wp2_with fail
      refine (HW.out _).mono ?_
      rintro e wz ⟨rfl, rfl⟩
      go_wp2_with fail
      go_end0
      exact .inr ⟨(), rfl, rfl, rfl⟩
end Go.Proofs.YtanmkddmebhdpaaDoor
