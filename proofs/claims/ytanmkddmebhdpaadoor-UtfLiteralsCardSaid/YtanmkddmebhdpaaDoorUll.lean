/- The law UtfLiterals. -/
import Derived.Test.YtanmkddmebhdpaaDoorUru
import Derived.Test.YtanmkddmebhdpaaDoorUlj
namespace Go.Proofs.YtanmkddmebhdpaaDoor
set_option maxRecDepth 20000
open Go.RowKit Go.Lib

theorem halfF_err {l : List UInt8} {k : Nat} (h : halfF l = .error k) : k ≠ 0 := by
  have hH : ∀ {l : List UInt8}, halfH l = .error k → k ≠ 0 := by
    intro l h
    unfold halfH at h
    split at h
    · rename_i e he
      injection h with h
      subst h
      rcases numF_err 9 4 l 0 _ he with h | h <;> omega
    · split at h
      · cases h
      · injection h with h
        omega
  have hG : ∀ {l : List UInt8}, halfG l = .error k → k ≠ 0 := by
    intro l h
    cases l with
    | nil =>
      have h : Except.error 10 = (Except.error k : Except Nat Nat) := h
      injection h with h
      omega
    | cons b l =>
      have h : (if b ≠ 117 then Except.error 9 else halfH l) = .error k := h
      split at h
      · injection h with h
        omega
      · exact hH h
  cases l with
  | nil =>
    have h : Except.error 10 = (Except.error k : Except Nat Nat) := h
    injection h with h
    omega
  | cons b l =>
    have h : (if b ≠ 92 then Except.error 9 else halfG l) = .error k := h
    split at h
    · injection h with h
      omega
    · exact hG h
theorem escF_err {l : List UInt8} {k : Nat} (h : escF l = .error k) : k ≠ 0 := by
  cases l with
  | nil =>
    have h : Except.error 10 = (Except.error k : Except Nat (Nat × Nat)) := h
    injection h with h
    omega
  | cons a l =>
    rw [escF_cons] at h
    split at h
    · unfold numberedF at h
      split at h
      · rename_i e he
        injection h with h
        subst h
        rcases numF_err 2 4 l 0 _ he with h | h <;> omega
      · split at h
        · injection h with h
          omega
        · split at h
          · cases h
          · split at h
            · rename_i e he
              injection h with h
              subst h
              exact halfF_err he
            · cases h
    · split at h
      · cases h
      · split at h
        · cases h
        · injection h with h
          omega
theorem litF_err (full : List UInt8 → Bool) : ∀ (n : Nat) (l t : List UInt8) (u k : Nat), l.length < n → litF full n l t u = .error k → k ≠ 0
  | 0, _, _, _, _, hn, _ => by omega
  | n + 1, l, t, u, k, hn, h => by
    rw [litF_succ] at h
    split at h
    · injection h with h
      omega
    · rename_i hl
      have hlen : 0 < l.length := List.length_pos_iff.2 hl
      split at h
      · cases h
      · split at h
        · split at h
          · rename_i e he
            injection h with h
            subst h
            exact escF_err he
          · rename_i c m hes
            have hm := (escF_ok hes).2.2.1
            exact litF_err full n _ _ _ k (by rw [List.length_drop]; omega) h
        · split at h
          · injection h with h
            omega
          · split at h
            · injection h with h
              split at h <;> omega
            · rename_i h4
              obtain ⟨c, r, _, hd, _⟩ := enc_dec l hl h4
              have hw := (widC_pos c).1
              have hd2 : (decodeL l).2 = widC c := by rw [hd]
              exact litF_err full n _ _ _ k (by rw [List.length_drop, hd2]; omega) h
theorem unqF_err {full : List UInt8 → Bool} {L : List UInt8} {k : Nat} (h : unqF full L = .error k) : k ≠ 0 := by
  unfold unqF at h
  split at h
  · injection h with h
    omega
  · rename_i hl
    split at h
    · injection h with h
      omega
    · have hlen : 0 < L.length := List.length_pos_iff.2 hl
      exact litF_err full _ _ _ _ k (by rw [List.length_drop]; omega) h
set_option maxHeartbeats 8000000 in
theorem lits_any (s : ByteArray) (w : World) (hs : s.size ≤ 9223372036854775807) (hT : TabsU w) :
    Calls Tryd.prog 3 #[.string s] w fun e w' => e = .returned (.bool true) ∧ Below w.heap.size w w' := by
  have HA := Lib.hid (alive_u w)
  have HT := Lib.hid hT
  obtain ⟨n, hn⟩ : ∃ n, s.size = n := ⟨_, rfl⟩
  rw [hn] at hs
  clear hT
  by_cases hb1 : 300 < n
  · have d1 : decide (300 < n) = true := decide_eq_true hb1
    have d1i : decide ((300 : Int) < (n : Int)) = true := decide_eq_true (by omega)
    clear hb1
    go_enter Tryd.func3, Tryd.ntmps3
    go_wp2_with fail
    refine HA.out.mono ?_
    rintro e w1 ⟨rfl, hbl⟩
    have HB := Lib.hid hbl
    clear hbl
    go_wp2_with fail
    go_ret
    exact ⟨rfl, HB.out⟩
  have d1 : decide (300 < n) = false := decide_eq_false hb1
  have d1i : decide ((300 : Int) < (n : Int)) = false := decide_eq_false (by omega)
  have HUQ := Lib.hid (fun w hT => unquote_any s s.data.toList w rfl (by rw [← Lib.size_eq, hn]; omega) hT)
  have HRQ := Lib.hid (fun w => refunq_any s s.data.toList w rfl (by omega))
  obtain ⟨X, hX⟩ : ∃ X, unqF fullP s.data.toList = X := ⟨_, rfl⟩
  rw [hX] at HUQ HRQ
  cases X with
  | error k =>
    have hk := unqF_err hX
    have HNM := Lib.hid (fun w => num_any k w)
    have hev : errV k = .iface 39 (.int .i64 (k : Int)) := by
      cases k with
      | zero => exact absurd rfl hk
      | succ k => rfl
    rw [hev] at HNM
    unfold unqR at HUQ
    unfold ruqR at HRQ
    dsimp only at HUQ HRQ
    clear hX hk hev hb1
    go_enter Tryd.func3, Tryd.ntmps3
    go_wp2_with fail
    refine HA.out.mono ?_
    rintro e w1 ⟨rfl, hbl⟩
    have HB1 := Lib.hid hbl
    have HT1 := Lib.hid (HT.out.below hbl HT.out.size)
    clear hbl HA HT
    go_wp2_with fail
    refine (HUQ.out w1 HT1.out).mono ?_
    rintro e w2 ⟨rfl, hbl⟩
    have HB2 := Lib.hid (HB1.out.trans (hbl.mono HB1.out.size))
    clear hbl HUQ HT1
    go_wp2_with fail
    refine (HRQ.out w2).mono ?_
    rintro e w3 ⟨rfl, hbl⟩
    have HB3 := Lib.hid (HB2.out.trans (hbl.mono HB2.out.size))
    clear hbl HRQ
    go_wp2_with fail
    refine (HNM.out w3).mono ?_
    rintro e wz ⟨rfl, hwz⟩
    have HB4 : RowKit.Hid (Below w.heap.size w wz) := Lib.hid (by rw [hwz]; exact HB3.out)
    clear hwz
    go_wp2_with fail
    go_ret
    exact ⟨rfl, HB4.out⟩
  | ok tu =>
    obtain ⟨t, u⟩ := tu
    have HNM := Lib.hid (fun w => num_any 0 w)
    rw [show errV 0 = .nilIface from rfl] at HNM
    unfold unqR at HUQ
    unfold ruqR at HRQ
    dsimp only at HUQ HRQ
    obtain ⟨q, hq⟩ : ∃ q : ByteArray, ⟨t.toArray⟩ = q := ⟨_, rfl⟩
    rw [hq] at HUQ HRQ
    clear hX hq hb1
    go_enter Tryd.func3, Tryd.ntmps3
    go_wp2_with fail
    refine HA.out.mono ?_
    rintro e w1 ⟨rfl, hbl⟩
    have HB1 := Lib.hid hbl
    have HT1 := Lib.hid (HT.out.below hbl HT.out.size)
    clear hbl HA HT
    go_wp2_with fail
    refine (HUQ.out w1 HT1.out).mono ?_
    rintro e w2 ⟨rfl, hbl⟩
    have HB2 := Lib.hid (HB1.out.trans (hbl.mono HB1.out.size))
    clear hbl HUQ HT1
    go_wp2_with fail
    refine (HRQ.out w2).mono ?_
    rintro e w3 ⟨rfl, hbl⟩
    have HB3 := Lib.hid (HB2.out.trans (hbl.mono HB2.out.size))
    clear hbl HRQ
    go_wp2_with fail
    refine (HNM.out w3).mono ?_
    rintro e wz ⟨rfl, hwz⟩
    have HB4 : RowKit.Hid (Below w.heap.size w wz) := Lib.hid (by rw [hwz]; exact HB3.out)
    clear hwz
    go_wp2_with fail
    go_ret
    exact ⟨rfl, HB4.out⟩
end Go.Proofs.YtanmkddmebhdpaaDoor
