/- The laws' fixed fact; the law UtfJoins. -/
import Derived.Test.YtanmkddmebhdpaaDoorUna
import Derived.Laws.Concat
namespace Go.Proofs.YtanmkddmebhdpaaDoor
set_option maxRecDepth 20000
open Go.RowKit Go.Lib

theorem known_a : quoP false [97, 10, 233] = [34, 97, 92, 110, 195, 169, 34] := by decide +kernel
theorem known_b : quoP true [97, 10, 233] = [34, 97, 92, 110, 92, 117, 48, 48, 101, 57, 34] := by decide +kernel
set_option maxHeartbeats 1000000 in
theorem alive_u (w : World) : Calls Tryd.prog 6 #[] w fun e w' => e = .returned (.bool true) ∧ Below w.heap.size w w' := by
  have hok : ∀ c ∈ [97, 10, 233], okc c := by decide
  have hl : (⟨#[97, 10, 195, 169]⟩ : ByteArray).data.toList = flatC [97, 10, 233] ++ [] := by decide +kernel
  have HQ := Lib.hid (fun w => quote_any ⟨#[97, 10, 195, 169]⟩ [97, 10, 233] [] w hl hok (.inl rfl) (by decide))
  have HN := Lib.hid (fun w => narrow_any ⟨#[97, 10, 195, 169]⟩ [97, 10, 233] [] w hl hok (.inl rfl) (by decide))
  unfold quoR at HQ HN
  rw [if_pos rfl, known_a] at HQ
  rw [if_pos rfl, known_b] at HN
  clear hok hl
  go_enter Tryd.func6, Tryd.ntmps6
  go_wp2_with fail
  refine (HQ.out w).mono ?_
  rintro e w1 ⟨rfl, hb1⟩
  have HB1 := Lib.hid hb1
  clear hb1
  go_wp2_with fail
  refine (HN.out w1).mono ?_
  rintro e w2 ⟨rfl, hb2⟩
  have HB2 := Lib.hid (HB1.out.trans (hb2.mono HB1.out.size))
  clear hb2
  go_wp2_with fail
  go_ret
  exact ⟨rfl, HB2.out⟩
theorem litF_right (full : List UInt8 → Bool) : ∀ (n : Nat) (l : List UInt8) (cs : List Nat) (u : Nat) (t' : List UInt8) (u' : Nat), (∀ c ∈ cs, okc c) → litF full n l (flatC cs) u = .ok (t', u') →
    (∃ cs', t' = flatC cs' ∧ ∀ c ∈ cs', okc c) ∧ u + 1 ≤ u' ∧ u' ≤ u + l.length ∧ t'.length ≤ (flatC cs).length + l.length
  | 0, l, cs, u, t', u', _, h => by cases h
  | n + 1, l, cs, u, t', u', hcs, h => by
    rw [litF_succ] at h
    split at h
    · cases h
    · rename_i hl
      have hlen : 0 < l.length := List.length_pos_iff.2 hl
      split at h
      · injection h with h
        injection h with h1 h2
        subst h1
        subst h2
        exact ⟨⟨cs, rfl, hcs⟩, by omega, by omega, by omega⟩
      · split at h
        · split at h
          · cases h
          · rename_i c m hes
            obtain ⟨hok, hw, hm, hlow⟩ := escF_ok hes
            have hml : m ≤ l.length := by
              obtain ⟨b, hb1, _⟩ := hlow (m - 2) (by omega)
              have h2 := (List.getElem?_eq_some_iff.1 hb1).1
              rw [List.length_drop] at h2
              omega
            rw [show flatC cs ++ encB c = flatC (cs ++ [c]) by rw [flatC_append]; simp [flatC]] at h
            have h3 := litF_right full n (l.drop m) (cs ++ [c]) (u + m) t' u' (fun x hx => by
              rcases List.mem_append.1 hx with hx | hx
              · exact hcs x hx
              · have : x = c := by simpa using hx
                subst this
                exact hok) h
            rw [List.length_drop, flatC_append, List.length_append, show (flatC [c]).length = widC c by simp [flatC, encB_length]] at h3
            exact ⟨h3.1, by omega, by omega, by omega⟩
        · split at h
          · cases h
          · split at h
            · cases h
            · rename_i h4
              obtain ⟨c, r, hc, hd, he⟩ := enc_dec l hl h4
              rw [hd] at h
              dsimp only at h
              have hw := (widC_pos c).1
              have hwl : widC c ≤ l.length := by
                have := congrArg List.length he
                rw [List.length_append, encB_length] at this
                omega
              rw [show flatC cs ++ encB c = flatC (cs ++ [c]) by rw [flatC_append]; simp [flatC]] at h
              have h3 := litF_right full n (l.drop (widC c)) (cs ++ [c]) (u + widC c) t' u' (fun x hx => by
                rcases List.mem_append.1 hx with hx | hx
                · exact hcs x hx
                · have : x = c := by simpa using hx
                  subst this
                  exact hc) h
              rw [List.length_drop, flatC_append, List.length_append, show (flatC [c]).length = widC c by simp [flatC, encB_length]] at h3
              exact ⟨h3.1, by omega, by omega, by omega⟩
theorem unqF_right {full : List UInt8 → Bool} {L t : List UInt8} {u : Nat} (h : unqF full L = .ok (t, u)) : (∃ cs, t = flatC cs ∧ ∀ c ∈ cs, okc c) ∧ 2 ≤ u ∧ u ≤ L.length ∧ t.length ≤ L.length := by
  unfold unqF at h
  split at h
  · cases h
  · rename_i hl
    split at h
    · cases h
    · have hlen : 0 < L.length := List.length_pos_iff.2 hl
      have h2 := litF_right full L.length (L.drop 1) [] 1 t u (by simp) h
      rw [List.length_drop] at h2
      exact ⟨h2.1, by omega, by omega, by have h3 := h2.2.2.2; simp [flatC] at h3; omega⟩
set_option maxHeartbeats 8000000 in
theorem joins_any (a b : ByteArray) (w : World) (ha : a.size ≤ 9223372036854775807) (hb : b.size ≤ 9223372036854775807) (hT : TabsU w) :
    Calls Tryd.prog 5 #[.string a, .string b] w fun e w' => e = .returned (.bool true) ∧ Below w.heap.size w w' := by
  have HA := Lib.hid (alive_u w)
  have HT := Lib.hid hT
  have HSZ := Lib.hid (And.intro ha hb)
  obtain ⟨na, hna⟩ : ∃ na, a.size = na := ⟨_, rfl⟩
  obtain ⟨nb', hnb⟩ : ∃ nb', b.size = nb' := ⟨_, rfl⟩
  rw [hna, hnb] at HSZ
  clear hT ha hb
  by_cases hb1 : 1000 < na
  · have d1 : decide (1000 < na) = true := decide_eq_true hb1
    have d1i : decide ((1000 : Int) < (na : Int)) = true := decide_eq_true (by omega)
    clear hb1
    go_enter Tryd.func5, Tryd.ntmps5
    go_wp2_with fail
    refine HA.out.mono ?_
    rintro e w1 ⟨rfl, hbl⟩
    have HB := Lib.hid hbl
    clear hbl
    go_wp2_with fail
    go_ret
    exact ⟨rfl, HB.out⟩
  by_cases hb2 : 1000 < nb'
  · have d1 : decide (1000 < na) = false := decide_eq_false hb1
    have d1i : decide ((1000 : Int) < (na : Int)) = false := decide_eq_false (by omega)
    have d2 : decide (1000 < nb') = true := decide_eq_true hb2
    have d2i : decide ((1000 : Int) < (nb' : Int)) = true := decide_eq_true (by omega)
    clear hb1 hb2
    go_enter Tryd.func5, Tryd.ntmps5
    go_wp2_with fail
    refine HA.out.mono ?_
    rintro e w1 ⟨rfl, hbl⟩
    have HB := Lib.hid hbl
    clear hbl
    go_wp2_with fail
    go_ret
    exact ⟨rfl, HB.out⟩
  have d1 : decide (1000 < na) = false := decide_eq_false hb1
  have d1i : decide ((1000 : Int) < (na : Int)) = false := decide_eq_false (by omega)
  have d2 : decide (1000 < nb') = false := decide_eq_false hb2
  have d2i : decide ((1000 : Int) < (nb' : Int)) = false := decide_eq_false (by omega)
  obtain ⟨ca, ra, hla, hoka, hra⟩ := halt_any a
  obtain ⟨cb, rb, hlb, hokb, hrb⟩ := halt_any b
  have hlena : na = (flatC ca).length + ra.length := by rw [← hna, Lib.size_eq, hla, List.length_append]
  have hlenb : nb' = (flatC cb).length + rb.length := by rw [← hnb, Lib.size_eq, hlb, List.length_append]
  have HVA := Lib.hid (fun w => valid_any a ca ra w hla hoka hra (by omega))
  have HBA := Lib.hid (fun w => bad_any a ca ra w hla hoka hra (by omega))
  have HBB := Lib.hid (fun w => bad_any b cb rb w hlb hokb hrb (by omega))
  have HUQ := Lib.hid (fun w hT => unquote_any a a.data.toList w rfl (by rw [← Lib.size_eq]; omega) hT)
  obtain ⟨X, hX⟩ : ∃ X, unqF fullP a.data.toList = X := ⟨_, rfl⟩
  rw [hX] at HUQ
  have HAB : RowKit.Hid (ra = [] → ((a ++ b).data.toList = flatC (ca ++ cb) ++ rb) ∧ (∀ c ∈ ca ++ cb, okc c) ∧ (a ++ b).size ≤ 9223372036854775807) := Lib.hid (fun h0 => by
    subst h0
    have h1 : (a ++ b).data.toList = flatC (ca ++ cb) ++ rb := by rw [ByteArray.data_append, Array.toList_append, hla, hlb, List.append_nil, flatC_append, List.append_assoc]
    refine ⟨h1, fun c hc => ?_, ?_⟩
    · rcases List.mem_append.1 hc with hc | hc
      · exact hoka c hc
      · exact hokb c hc
    · rw [Lib.size_eq, h1, List.length_append, flatC_append, List.length_append]
      simp at hlena
      omega)
  have HCC := Lib.hid (run_string_add_sum (P := Tryd.prog) · a b (by omega))
  have HLN := Lib.hid (And.intro hlena (And.intro hlenb (And.intro hrb (by omega : na ≤ 1000 ∧ nb' ≤ 1000))))
  -- what the walk behind Unquote is
  have HUX : RowKit.Hid ((∃ k, X = .error k) ∨ ∃ cs u, X = .ok (flatC cs, u) ∧ (∀ c ∈ cs, okc c) ∧ 2 ≤ u ∧ u ≤ na ∧ (flatC cs).length ≤ 9223372036854775807) := Lib.hid (by
    cases hx : X with
    | error k => exact .inl ⟨k, rfl⟩
    | ok tu =>
      obtain ⟨t, u⟩ := tu
      rw [hx] at hX
      obtain ⟨⟨cs, rfl, hcs⟩, hu1, hu2, hu3⟩ := unqF_right hX
      rw [← Lib.size_eq, hna] at hu2 hu3
      exact .inr ⟨cs, u, rfl, hcs, hu1, hu2, by omega⟩)
  clear hla hoka hra hlb hokb hrb hlena hlenb hX hb1 hb2
  go_enter Tryd.func5, Tryd.ntmps5
  go_wp2_with fail
  refine HA.out.mono ?_
  rintro e w1 ⟨rfl, hbl⟩
  have HB1 := Lib.hid hbl
  have HT1 := Lib.hid (HT.out.below hbl HT.out.size)
  clear hbl HA HT
  go_wp2_with fail
  refine (HUQ.out w1 HT1.out).mono ?_
  rintro e w2 ⟨he, hb2⟩
  have HB2 := Lib.hid (HB1.out.trans (hb2.mono HB1.out.size))
  clear hb2 HUQ HT1
  rcases HUX.out with ⟨k, rfl⟩ | ⟨cs, u, rfl, hcs, hu1, hu2, hu3⟩
  · subst he
    unfold unqR
    dsimp only
    clear HUX
    go_wp2_with fail
    refine (HVA.out w2).mono ?_
    rintro e w3 ⟨rfl, hb3⟩
    have HB3 := Lib.hid (HB2.out.trans (hb3.mono HB2.out.size))
    clear hb3 HB2 HVA
    by_cases hra0 : ra = []
    rotate_left
    · rw [decide_eq_false hra0]
      have hbp : badP ca ra = ((flatC ca).length : Int) := by unfold badP; rw [if_neg hra0]
      rw [hbp] at HBA
      have hlt : (flatC ca).length < na := by have := HLN.out.1; have h2 : 0 < ra.length := List.length_pos_iff.2 hra0; omega
      obtain ⟨q, hq⟩ : ∃ q, (flatC ca).length = q := ⟨_, rfl⟩
      rw [hq] at HBA hlt
      have d5 : decide (q < na) = true := decide_eq_true hlt
      have d5i : decide ((q : Int) < (na : Int)) = true := decide_eq_true (by omega)
      clear hbp hlt hq hra0
      go_wp2_with fail
      refine (HBA.out w3).mono ?_
      rintro e w4 ⟨rfl, hb4⟩
      have HB4 := Lib.hid (HB3.out.trans (hb4.mono HB3.out.size))
      clear hb4
      go_wp2_with fail
      go_ret
      exact ⟨rfl, HB4.out⟩
    · rw [decide_eq_true hra0]
      obtain ⟨hab, hokab, hsab⟩ := HAB.out hra0
      have hnaq : (flatC ca).length = na := by have := HLN.out.1; rw [hra0] at this; simp at this; omega
      have HVC := Lib.hid (fun w => valid_any (a ++ b) (ca ++ cb) rb w hab hokab HLN.out.2.2.1 hsab)
      have HBC := Lib.hid (fun w => bad_any (a ++ b) (ca ++ cb) rb w hab hokab HLN.out.2.2.1 hsab)
      clear hab hokab hsab
      by_cases hrb0 : rb = []
      · have hbp : badP cb rb = -1 := by unfold badP; rw [if_pos hrb0]
        rw [hbp] at HBB
        rw [decide_eq_true hrb0] at HVC
        have hcc := fun w => HCC.out w
        clear hbp hnaq hra0
        go_wp2_with fail
        refine (HBB.out w3).mono ?_
        rintro e w4 ⟨rfl, hb4⟩
        have HB4 := Lib.hid (HB3.out.trans (hb4.mono HB3.out.size))
        clear hb4
        go_wp2_with fail
        refine (HVC.out w4).mono ?_
        rintro e w5 ⟨rfl, hb5⟩
        have HB5 := Lib.hid (HB4.out.trans (hb5.mono HB4.out.size))
        clear hb5
        go_wp2_with fail
        go_ret
        exact ⟨rfl, HB5.out⟩
      · have hbp : badP cb rb = ((flatC cb).length : Int) := by unfold badP; rw [if_neg hrb0]
        have hbp2 : badP (ca ++ cb) rb = ((na + (flatC cb).length : Nat) : Int) := by unfold badP; rw [if_neg hrb0, flatC_append, List.length_append, hnaq]
        rw [hbp] at HBB
        rw [hbp2] at HBC
        obtain ⟨q, hq⟩ : ∃ q, (flatC cb).length = q := ⟨_, rfl⟩
        rw [hq] at HBB HBC
        have hq2 : q ≤ 1000 := by have := HLN.out; omega
        have hn2 : na ≤ 1000 := HLN.out.2.2.2.1
        have d6 : decide ((q : Int) < 0) = false := decide_eq_false (by omega)
        have e7 : (na : Int) + (q : Int) = ((na + q : Nat) : Int) := by omega
        obtain ⟨z, hz⟩ : ∃ z, na + q = z := ⟨_, rfl⟩
        rw [hz] at HBC e7
        have hz2 : z ≤ 2000 := by omega
        have hcc := fun w => HCC.out w
        clear hbp hbp2 hnaq hra0 hq hz
        go_wp2_with fail
        refine (HBB.out w3).mono ?_
        rintro e w4 ⟨rfl, hb4⟩
        have HB4 := Lib.hid (HB3.out.trans (hb4.mono HB3.out.size))
        clear hb4
        go_wp2_with fail
        refine (HBC.out w4).mono ?_
        rintro e w5 ⟨rfl, hb5⟩
        have HB5 := Lib.hid (HB4.out.trans (hb5.mono HB4.out.size))
        clear hb5
        go_wp2_with fail
        go_ret
        exact ⟨rfl, HB5.out⟩
  · subst he
    have HVX := Lib.hid (fun w => valid_any ⟨(flatC cs).toArray⟩ cs [] w (by simp) hcs (.inl rfl) (by rw [Lib.size_eq]; exact hu3))
    rw [decide_eq_true rfl] at HVX
    have hu4 : u ≤ 1000 := by have := HLN.out; omega
    have d3 : decide ((u : Int) < 2) = false := decide_eq_false (by omega)
    have d3n : decide (u < 2) = false := decide_eq_false (by omega)
    have d4 : decide (na < u) = false := decide_eq_false (by omega)
    have d4i : decide ((na : Int) < (u : Int)) = false := decide_eq_false (by omega)
    unfold unqR
    dsimp only
    clear HUX hcs hu1 hu2 hu3 hu4
    generalize (⟨(flatC cs).toArray⟩ : ByteArray) = sx at HVX ⊢
    go_wp2_with fail
    refine (HVX.out w2).mono ?_
    rintro e w2' ⟨rfl, hb2'⟩
    have HB2' := Lib.hid (HB2.out.trans (hb2'.mono HB2.out.size))
    clear hb2' HB2 HVX
    have HB2 := HB2'
    clear HB2'
    go_wp2_with fail
    refine (HVA.out w2').mono ?_
    rintro e w3 ⟨rfl, hb3⟩
    have HB3 := Lib.hid (HB2.out.trans (hb3.mono HB2.out.size))
    clear hb3 HB2 HVA
    by_cases hra0 : ra = []
    rotate_left
    · rw [decide_eq_false hra0]
      have hbp : badP ca ra = ((flatC ca).length : Int) := by unfold badP; rw [if_neg hra0]
      rw [hbp] at HBA
      have hlt : (flatC ca).length < na := by have := HLN.out.1; have h2 : 0 < ra.length := List.length_pos_iff.2 hra0; omega
      obtain ⟨q, hq⟩ : ∃ q, (flatC ca).length = q := ⟨_, rfl⟩
      rw [hq] at HBA hlt
      have d5 : decide (q < na) = true := decide_eq_true hlt
      have d5i : decide ((q : Int) < (na : Int)) = true := decide_eq_true (by omega)
      clear hbp hlt hq hra0
      go_wp2_with fail
      refine (HBA.out w3).mono ?_
      rintro e w4 ⟨rfl, hb4⟩
      have HB4 := Lib.hid (HB3.out.trans (hb4.mono HB3.out.size))
      clear hb4
      go_wp2_with fail
      go_ret
      exact ⟨rfl, HB4.out⟩
    · rw [decide_eq_true hra0]
      obtain ⟨hab, hokab, hsab⟩ := HAB.out hra0
      have hnaq : (flatC ca).length = na := by have := HLN.out.1; rw [hra0] at this; simp at this; omega
      have HVC := Lib.hid (fun w => valid_any (a ++ b) (ca ++ cb) rb w hab hokab HLN.out.2.2.1 hsab)
      have HBC := Lib.hid (fun w => bad_any (a ++ b) (ca ++ cb) rb w hab hokab HLN.out.2.2.1 hsab)
      clear hab hokab hsab
      by_cases hrb0 : rb = []
      · have hbp : badP cb rb = -1 := by unfold badP; rw [if_pos hrb0]
        rw [hbp] at HBB
        rw [decide_eq_true hrb0] at HVC
        have hcc := fun w => HCC.out w
        clear hbp hnaq hra0
        go_wp2_with fail
        refine (HBB.out w3).mono ?_
        rintro e w4 ⟨rfl, hb4⟩
        have HB4 := Lib.hid (HB3.out.trans (hb4.mono HB3.out.size))
        clear hb4
        go_wp2_with fail
        refine (HVC.out w4).mono ?_
        rintro e w5 ⟨rfl, hb5⟩
        have HB5 := Lib.hid (HB4.out.trans (hb5.mono HB4.out.size))
        clear hb5
        go_wp2_with fail
        go_ret
        exact ⟨rfl, HB5.out⟩
      · have hbp : badP cb rb = ((flatC cb).length : Int) := by unfold badP; rw [if_neg hrb0]
        have hbp2 : badP (ca ++ cb) rb = ((na + (flatC cb).length : Nat) : Int) := by unfold badP; rw [if_neg hrb0, flatC_append, List.length_append, hnaq]
        rw [hbp] at HBB
        rw [hbp2] at HBC
        obtain ⟨q, hq⟩ : ∃ q, (flatC cb).length = q := ⟨_, rfl⟩
        rw [hq] at HBB HBC
        have hq2 : q ≤ 1000 := by have := HLN.out; omega
        have hn2 : na ≤ 1000 := HLN.out.2.2.2.1
        have d6 : decide ((q : Int) < 0) = false := decide_eq_false (by omega)
        have e7 : (na : Int) + (q : Int) = ((na + q : Nat) : Int) := by omega
        obtain ⟨z, hz⟩ : ∃ z, na + q = z := ⟨_, rfl⟩
        rw [hz] at HBC e7
        have hz2 : z ≤ 2000 := by omega
        have hcc := fun w => HCC.out w
        clear hbp hbp2 hnaq hra0 hq hz
        go_wp2_with fail
        refine (HBB.out w3).mono ?_
        rintro e w4 ⟨rfl, hb4⟩
        have HB4 := Lib.hid (HB3.out.trans (hb4.mono HB3.out.size))
        clear hb4
        go_wp2_with fail
        refine (HBC.out w4).mono ?_
        rintro e w5 ⟨rfl, hb5⟩
        have HB5 := Lib.hid (HB4.out.trans (hb5.mono HB4.out.size))
        clear hb5
        go_wp2_with fail
        go_ret
        exact ⟨rfl, HB5.out⟩
end Go.Proofs.YtanmkddmebhdpaaDoor
