/- The law UtfBack. -/
import Derived.Test.YtanmkddmebhdpaaDoorUlj
namespace Go.Proofs.YtanmkddmebhdpaaDoor
set_option maxRecDepth 20000
open Go.RowKit Go.Lib

theorem esc_mono (c : Nat) : (escP false c).length ≤ (escP true c).length := by
  unfold escP
  by_cases h1 : signsL.idxOf c < 7
  · rw [if_pos h1, if_pos h1]
    exact Nat.le_refl _
  · rw [if_neg h1, if_neg h1]
    by_cases h2 : 32 ≤ c
    · rw [if_pos ⟨h2, .inr rfl⟩]
      by_cases h3 : c < 127
      · rw [if_pos ⟨h2, .inl h3⟩]
        exact Nat.le_refl _
      · rw [if_neg (by rintro ⟨_, h | h⟩; exact h3 h; cases h), encB_length]
        have := (widC_pos c).2
        split
        · rw [four_len]; omega
        · rw [List.length_append, four_len, four_len]; omega
    · rw [if_neg (show ¬ (32 ≤ c ∧ (c < 127 ∨ false = false)) from fun h => h2 h.1), if_neg (show ¬ (32 ≤ c ∧ (c < 127 ∨ true = false)) from fun h => h2 h.1)]
      exact Nat.le_refl _
theorem escs_mono : ∀ cs : List Nat, (cs.flatMap (escP false)).length ≤ (cs.flatMap (escP true)).length
  | [] => Nat.le_refl _
  | c :: cs => by
    rw [List.flatMap_cons, List.flatMap_cons, List.length_append, List.length_append]
    have := esc_mono c
    have := escs_mono cs
    omega
/-- A byte from 32 to 126. -/
def mid (u : UInt8) : Prop := 32 ≤ u.toNat ∧ u.toNat ≤ 126
theorem fig_mid (i : Nat) (h : i < 16) : mid (figB i) := by
  have key : ∀ i : Fin 16, 32 ≤ (figB i.val).toNat ∧ (figB i.val).toNat ≤ 126 := by decide +kernel
  exact key ⟨i, h⟩
theorem four_mid (n : Nat) (h : n < 65536) : ∀ u ∈ fourL n, mid u := by
  intro u hu
  unfold fourL at hu
  simp only [List.mem_cons, List.not_mem_nil, or_false] at hu
  rcases hu with rfl | rfl | rfl | rfl | rfl | rfl
  · exact ⟨by decide, by decide⟩
  · exact ⟨by decide, by decide⟩
  all_goals exact fig_mid _ (by omega)
theorem esc_mid (c : Nat) (h : okc c) : ∀ u ∈ escP true c, mid u := by
  intro u hu
  unfold escP at hu
  split at hu
  · rename_i h1
    have key : ∀ i : Fin 7, 32 ≤ (nb (lettersL.getD i.val 0)).toNat ∧ (nb (lettersL.getD i.val 0)).toNat ≤ 126 := by decide +kernel
    simp only [List.mem_cons, List.not_mem_nil, or_false] at hu
    rcases hu with rfl | rfl
    · exact ⟨by decide, by decide⟩
    · exact key ⟨_, h1⟩
  · split at hu
    · rename_i h2
      have h3 : c < 127 := by
        rcases h2.2 with h3 | h3
        · exact h3
        · cases h3
      unfold encB at hu
      rw [if_pos (by omega)] at hu
      have : u = nb c := by simpa using hu
      subst this
      unfold mid
      rw [nb_toNat (by omega)]
      omega
    · unfold okc at h
      split at hu
      · exact four_mid c (by omega) u hu
      · rcases List.mem_append.1 hu with hu | hu
        · exact four_mid _ (by omega) u hu
        · exact four_mid _ (by omega) u hu
theorem quo_mid (cs : List Nat) (h : ∀ c ∈ cs, okc c) : ∀ u ∈ quoP true cs, mid u := by
  intro u hu
  unfold quoP at hu
  rcases List.mem_cons.1 hu with rfl | hu
  · exact ⟨by decide, by decide⟩
  · rcases List.mem_append.1 hu with hu | hu
    · obtain ⟨c, hc, hu⟩ := List.mem_flatMap.1 hu
      exact esc_mid c (h c hc) u hu
    · have : u = 34 := by simpa using hu
      subst this
      exact ⟨by decide, by decide⟩
theorem quo_len (nar : Bool) (cs : List Nat) : (quoP nar cs).length = (cs.flatMap (escP nar)).length + 2 := by
  unfold quoP
  simp only [List.length_cons, List.length_append, List.length_nil]
theorem str_of (s : ByteArray) (l : List UInt8) (h : s.data.toList = l) : s = ⟨l.toArray⟩ := by
  apply ByteArray.ext
  rw [← h]
set_option maxHeartbeats 8000000 in
theorem uback_any (s b : ByteArray) (w : World) (hs : s.size ≤ 9223372036854775807) (hb : b.size ≤ 9223372036854775807) (hT : TabsU w) :
    Calls Tryd.prog 4 #[.string s, .string b] w fun e w' => e = .returned (.bool true) ∧ Below w.heap.size w w' := by
  have HA := Lib.hid (alive_u w)
  have HT := Lib.hid hT
  obtain ⟨na, hna⟩ : ∃ na, s.size = na := ⟨_, rfl⟩
  obtain ⟨nb', hnb⟩ : ∃ nb', b.size = nb' := ⟨_, rfl⟩
  rw [hna] at hs
  rw [hnb] at hb
  clear hT
  by_cases hb1 : 2000 < na
  · have d1 : decide (2000 < na) = true := decide_eq_true hb1
    have d1i : decide ((2000 : Int) < (na : Int)) = true := decide_eq_true (by omega)
    clear hb1
    go_enter Tryd.func4, Tryd.ntmps4
    go_wp2_with fail
    refine HA.out.mono ?_
    rintro e w1 ⟨rfl, hbl⟩
    have HB := Lib.hid hbl
    clear hbl
    go_wp2_with fail
    go_ret
    exact ⟨rfl, HB.out⟩
  by_cases hb2 : 200 < nb'
  · have d1 : decide (2000 < na) = false := decide_eq_false hb1
    have d1i : decide ((2000 : Int) < (na : Int)) = false := decide_eq_false (by omega)
    have d2 : decide (200 < nb') = true := decide_eq_true hb2
    have d2i : decide ((200 : Int) < (nb' : Int)) = true := decide_eq_true (by omega)
    clear hb1 hb2
    go_enter Tryd.func4, Tryd.ntmps4
    go_wp2_with fail
    refine HA.out.mono ?_
    rintro e w1 ⟨rfl, hbl⟩
    have HB := Lib.hid hbl
    clear hbl
    go_wp2_with fail
    go_ret
    exact ⟨rfl, HB.out⟩
  have d1 : decide (2000 < na) = false := decide_eq_false hb1
  have d1i : decide ((2000 : Int) < (na : Int)) = false := decide_eq_false (by omega)
  have d2 : decide (200 < nb') = false := decide_eq_false hb2
  have d2i : decide ((200 : Int) < (nb' : Int)) = false := decide_eq_false (by omega)
  obtain ⟨cs, r, hl, hok, hr⟩ := halt_any s
  have hlen : na = (flatC cs).length + r.length := by rw [← hna, Lib.size_eq, hl, List.length_append]
  have HV := Lib.hid (fun w => valid_any s cs r w hl hok hr (by omega))
  have HQ := Lib.hid (fun w => quote_any s cs r w hl hok hr (by omega))
  have HN := Lib.hid (fun w => narrow_any s cs r w hl hok hr (by omega))
  by_cases hr0 : r = []
  rotate_left
  · rw [decide_eq_false hr0] at HV
    unfold quoR at HQ HN
    rw [if_neg hr0] at HQ HN
    have hcc := fun w => run_string_add_sum (P := Tryd.prog) w ⟨#[]⟩ ⟨#[]⟩ (by decide)
    rw [show ((⟨#[]⟩ : ByteArray) ++ ⟨#[]⟩) = ⟨#[]⟩ from rfl] at hcc
    clear hl hok hr hr0 hlen hb1 hb2
    go_enter Tryd.func4, Tryd.ntmps4
    go_wp2_with fail
    refine HA.out.mono ?_
    rintro e w1 ⟨rfl, hbl⟩
    have HB1 := Lib.hid hbl
    clear hbl
    go_wp2_with fail
    refine (HQ.out w1).mono ?_
    rintro e w2 ⟨rfl, hb2⟩
    have HB2 := Lib.hid (HB1.out.trans (hb2.mono HB1.out.size))
    clear hb2
    go_wp2_with fail
    refine (HN.out w2).mono ?_
    rintro e w3 ⟨rfl, hb3⟩
    have HB3 := Lib.hid (HB2.out.trans (hb3.mono HB2.out.size))
    clear hb3
    go_wp2_with fail
    refine (HV.out w3).mono ?_
    rintro e w4 ⟨rfl, hb4⟩
    have HB4 := Lib.hid (HB3.out.trans (hb4.mono HB3.out.size))
    clear hb4
    go_wp2_with fail
    go_ret
    exact ⟨rfl, HB4.out⟩
  · rw [decide_eq_true hr0] at HV
    unfold quoR at HQ HN
    rw [if_pos hr0] at HQ HN
    subst hr0
    rw [List.append_nil] at hl
    have hse : s = ⟨(flatC cs).toArray⟩ := str_of s _ hl
    have hcl : cs.length ≤ 2000 := by have := flat_le cs; simp at hlen; omega
    have hq1 := escs_le false cs
    have hq2 := escs_le true cs
    have hmn := escs_mono cs
    have hmid := quo_mid cs hok
    have hla := quo_len false cs
    have hlb := quo_len true cs
    have hua := unq_quo fullP false cs hok b.data.toList
    have hub := unq_quo fullP true cs hok b.data.toList
    obtain ⟨Q, hQ⟩ : ∃ Q, quoP false cs = Q := ⟨_, rfl⟩
    obtain ⟨R, hR⟩ : ∃ R, quoP true cs = R := ⟨_, rfl⟩
    rw [hQ] at HQ hla hua
    rw [hR] at HN hlb hub hmid
    obtain ⟨ql, hql⟩ : ∃ ql, Q.length = ql := ⟨_, rfl⟩
    obtain ⟨rl, hrl⟩ : ∃ rl, R.length = rl := ⟨_, rfl⟩
    rw [hql] at hla hua
    rw [hrl] at hlb hub
    have hbl : b.data.toList.length = nb' := by rw [← Lib.size_eq]; exact hnb
    have hqs : (⟨Q.toArray⟩ : ByteArray).size = ql := by rw [Lib.size_eq]; exact hql
    have hrs : (⟨R.toArray⟩ : ByteArray).size = rl := by rw [Lib.size_eq]; exact hrl
    have hc1 := fun w => run_string_add_sum (P := Tryd.prog) w ⟨Q.toArray⟩ b (by rw [hqs, hnb]; omega)
    have hc2 := fun w => run_string_add_sum (P := Tryd.prog) w ⟨R.toArray⟩ b (by rw [hrs, hnb]; omega)
    have HUA := Lib.hid (fun w hT => unquote_any (⟨Q.toArray⟩ ++ b) (Q ++ b.data.toList) w (by rw [ByteArray.data_append, Array.toList_append]) (by rw [List.length_append, hql, hbl]; omega) hT)
    have HUB := Lib.hid (fun w hT => unquote_any (⟨R.toArray⟩ ++ b) (R ++ b.data.toList) w (by rw [ByteArray.data_append, Array.toList_append]) (by rw [List.length_append, hrl, hbl]; omega) hT)
    rw [hua] at HUA
    rw [hub] at HUB
    unfold unqR at HUA HUB
    dsimp only at HUA HUB
    rw [← hse] at HUA HUB
    have hix : ∀ i, i < rl → ∃ u, R[i]? = some u ∧ mid u := fun i hi => ⟨R[i]'(by omega), List.getElem?_eq_getElem (by omega), hmid _ (List.getElem_mem _)⟩
    have hkx := fun i u hu w => idx_at ⟨R.toArray⟩ R (by simp) i u hu w
    have HR := Lib.hid (And.intro hix hkx)
    have hqr : ql ≤ rl := by omega
    have hq5 : ql ≤ 30000 := by omega
    have hr5 : rl ≤ 30000 := by omega
    have d3 : decide (rl < ql) = false := decide_eq_false (by omega)
    have d3i : decide ((rl : Int) < (ql : Int)) = false := decide_eq_false (by omega)
    clear hl hok hr hlen hb1 hb2 hse hcl hq1 hq2 hmn hmid hla hlb hua hub hQ hR hql hrl hbl hix hkx
    generalize (⟨Q.toArray⟩ : ByteArray) = qa at HQ HUA hqs hc1 ⊢
    generalize (⟨R.toArray⟩ : ByteArray) = ra at HN HUB hrs hc2 HR ⊢
    generalize qa ++ b = qb at HUA hc1
    generalize ra ++ b = rb at HUB hc2
    go_enter Tryd.func4, Tryd.ntmps4
    go_wp2_with fail
    refine HA.out.mono ?_
    rintro e w1 ⟨rfl, hbl⟩
    have HB1 := Lib.hid hbl
    have HT1 := Lib.hid (HT.out.below hbl HT.out.size)
    clear hbl
    go_wp2_with fail
    refine (HQ.out w1).mono ?_
    rintro e w2 ⟨rfl, hb2⟩
    have HB2 := Lib.hid (HB1.out.trans (hb2.mono HB1.out.size))
    clear hb2
    go_wp2_with fail
    refine (HN.out w2).mono ?_
    rintro e w3 ⟨rfl, hb3⟩
    have HB3 := Lib.hid (HB2.out.trans (hb3.mono HB2.out.size))
    clear hb3
    go_wp2_with fail
    refine (HV.out w3).mono ?_
    rintro e w4 ⟨rfl, hb4⟩
    have HB4 := Lib.hid (HB3.out.trans (hb4.mono HB3.out.size))
    clear hb4
    go_wp2_with fail
    refine (HUA.out w4 (HT.out.below HB4.out HT.out.size)).mono ?_
    rintro e w5 ⟨rfl, hb5⟩
    have HB5 := Lib.hid (HB4.out.trans (hb5.mono HB4.out.size))
    clear hb5
    go_wp2_with fail
    refine (HUB.out w5 (HT.out.below HB5.out HT.out.size)).mono ?_
    rintro e w6 ⟨rfl, hb6⟩
    have HB6 := Lib.hid (HB5.out.trans (hb6.mono HB5.out.size))
    clear hb6
    clear HUA HUB HQ HN HV HT HT1 HA HB1 HB2 HB3 HB4 HB5 hc1 hc2
    go_wp2_with fail
    go_loopw [112] (fun i wr => ∃ k : Nat, i = .int .i64 (k : Int) ∧ k ≤ rl ∧ wr = w6) (fun i _ => rl - (intOf i).toNat)
    case atStart => exact ⟨0, rfl, Nat.zero_le _, rfl⟩
    case round =>
      obtain ⟨k, rfl, hk, rfl⟩ := hrel
      by_cases hlt : k < rl
      · obtain ⟨u, hu, hm1, hm2⟩ := HR.out.1 k hlt
        have kx := HR.out.2 k u hu
        have g1 : decide (k < rl) = true := decide_eq_true hlt
        have g1i : decide ((k : Int) < (rl : Int)) = true := decide_eq_true (by omega)
        have g2 : decide (u.toNat < 32) = false := decide_eq_false (by omega)
        have g2i : decide ((u.toNat : Int) < 32) = false := decide_eq_false (by omega)
        have g3 : decide (126 < u.toNat) = false := decide_eq_false (by omega)
        have g3i : decide ((126 : Int) < (u.toNat : Int)) = false := decide_eq_false (by omega)
        clear hu hm1 hm2
        go_wp2_with fail
        go_roundw
        case rel => exact ⟨k + 1, by simp, by omega, trivial⟩
        case measure => simp [intOf]; omega
      · have g1 : decide (k < rl) = false := decide_eq_false hlt
        have g1i : decide ((k : Int) < (rl : Int)) = false := decide_eq_false (by omega)
        go_wp2_with fail
        go_ret
        exact ⟨rfl, HB6.out⟩
end Go.Proofs.YtanmkddmebhdpaaDoor
