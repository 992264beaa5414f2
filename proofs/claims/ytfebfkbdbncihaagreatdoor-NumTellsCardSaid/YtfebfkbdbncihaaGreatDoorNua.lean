/- Contracts of CutPrefix and TrimPrefix at one byte, and of figures. -/
import Derived.Test.YtfebfkbdbncihaaGreatDoorSml
import Derived.Test.YtfebfkbdbncihaaGreatDoorNuq
import Derived.BigQuiet
namespace Go.Proofs.YtfebfkbdbncihaaGreatDoor
set_option maxRecDepth 20000
open Go.RowKit

/-- A text with these bytes. -/
def tx (l : List UInt8) : ByteArray := ⟨l.toArray⟩
theorem tx_toList (l : List UInt8) : (tx l).toList = l := by rw [Lib.toList_data]; simp [tx]
theorem tx_data (l : List UInt8) : (tx l).data.toList = l := by simp [tx]
theorem tx_size (l : List UInt8) : (tx l).size = l.length := by simp [tx, ByteArray.size]
theorem tx_self (s : ByteArray) : tx s.data.toList = s := by simp [tx]
theorem tx_extract (l : List UInt8) (i j : Nat) : (tx l).extract i j = tx ((l.take j).drop i) := by
  apply ByteArray.ext
  rw [ByteArray.data_extract]
  apply Array.ext'
  simp [tx, List.drop_take]
set_option maxHeartbeats 400000 in
theorem hasp_any (c : UInt8) (a : UInt8) (l : List UInt8) (w : World) : Calls Tryz.prog 91 #[.string (tx (a :: l)), .string ⟨#[c]⟩] w fun e w' => e = .returned (.bool (a == c)) ∧ w = w' := by
  have hs : (tx (a :: l)).size = l.length + 1 := tx_size _
  have he : (tx (a :: l)).extract 0 1 = tx [a] := tx_extract _ _ _
  have hd : decide (1 ≤ (l.length : Int) + 1) = true := decide_eq_true (by omega)
  have h1 : ((tx [a]).toList == [c]) = (a == c) := by rw [tx_toList]; simp
  have H := Lib.hid h1
  clear h1
  generalize tx (a :: l) = s at hs he ⊢
  go_enter Tryz.func91, Tryz.ntmps91
  go_wp2_with fail
  go_ret
  exact ⟨congrArg (fun b => Ending.returned (.bool b)) H.out, rfl⟩
set_option maxHeartbeats 400000 in
theorem hasp_nil (c : UInt8) (w : World) : Calls Tryz.prog 91 #[.string (tx []), .string ⟨#[c]⟩] w fun e w' => e = .returned (.bool false) ∧ w = w' := by
  have hs : (tx []).size = 0 := tx_size _
  generalize tx [] = s at hs ⊢
  go_enter Tryz.func91, Tryz.ntmps91
  go_wp2_with fail
  go_ret
  exact ⟨rfl, rfl⟩
theorem hasp (c : UInt8) (l : List UInt8) (w : World) : Calls Tryz.prog 91 #[.string (tx l), .string ⟨#[c]⟩] w fun e w' => e = .returned (.bool (cutB c l)) ∧ w = w' := by
  cases l with
  | nil => exact hasp_nil c w
  | cons a l => exact hasp_any c a l w
set_option maxHeartbeats 400000 in
theorem cutp_in (c : UInt8) (l : List UInt8) (w : World) : Calls Tryz.prog 79 #[.string (tx l), .string ⟨#[c]⟩] w fun e w' => e = .returned (.tuple #[.string (tx (cutR c l)), .bool (cutB c l)]) ∧ w = w' := by
  cases hb : cutB c l
  · have hr : cutR c l = l := by unfold cutR; rw [hb]; rfl
    rw [hr]
    have H := Lib.hid (hasp c l w)
    rw [hb] at H
    clear hr hb
    go_enter Tryz.func79, Tryz.ntmps79
    go_wp2_with fail
    refine H.out.mono ?_
    rintro e w1 ⟨rfl, rfl⟩
    go_wp2_with fail
    go_ret2
    exact ⟨rfl, rfl⟩
  · have hr : cutR c l = l.tail := by unfold cutR; rw [hb]; rfl
    have hln : 0 < l.length := by cases l with | nil => cases hb | cons a l => simp
    have hs : (tx l).size = l.length := tx_size _
    have he : (tx l).extract 1 l.length = tx l.tail := by rw [tx_extract, List.take_length, List.drop_one]
    have H := Lib.hid (hasp c l w)
    rw [hb] at H
    rw [hr]
    clear hr hb
    generalize tx l = s at hs he H ⊢
    generalize l.length = n at hs he hln
    generalize tx l.tail = t at he ⊢
    go_enter Tryz.func79, Tryz.ntmps79
    go_wp2_with fail
    refine H.out.mono ?_
    rintro e w1 ⟨rfl, rfl⟩
    go_wp2_with fail
    go_ret2
    exact ⟨rfl, rfl⟩
set_option maxHeartbeats 400000 in
theorem cutp_any (c : UInt8) (l : List UInt8) (w : World) : Calls Tryz.prog 50 #[.string (tx l), .string ⟨#[c]⟩] w fun e w' => e = .returned (.tuple #[.string (tx (cutR c l)), .bool (cutB c l)]) ∧ w = w' := by
  have H := Lib.hid (cutp_in c l w)
  go_enter Tryz.func50, Tryz.ntmps50
  go_wp2_with fail
  refine H.out.mono ?_
  rintro e w1 ⟨rfl, rfl⟩
  go_wp2_with fail
  go_ret2
  exact ⟨rfl, rfl⟩
set_option maxHeartbeats 400000 in
theorem trimp_in (c : UInt8) (l : List UInt8) (w : World) : Calls Tryz.prog 112 #[.string (tx l), .string ⟨#[c]⟩] w fun e w' => e = .returned (.string (tx (cutR c l))) ∧ w = w' := by
  cases hb : cutB c l
  · have hr : cutR c l = l := by unfold cutR; rw [hb]; rfl
    rw [hr]
    have H := Lib.hid (hasp c l w)
    rw [hb] at H
    clear hr hb
    go_enter Tryz.func112, Tryz.ntmps112
    go_wp2_with fail
    refine H.out.mono ?_
    rintro e w1 ⟨rfl, rfl⟩
    go_wp2_with fail
    go_ret
    exact ⟨rfl, rfl⟩
  · have hr : cutR c l = l.tail := by unfold cutR; rw [hb]; rfl
    have hln : 0 < l.length := by cases l with | nil => cases hb | cons a l => simp
    have hs : (tx l).size = l.length := tx_size _
    have he : (tx l).extract 1 l.length = tx l.tail := by rw [tx_extract, List.take_length, List.drop_one]
    have H := Lib.hid (hasp c l w)
    rw [hb] at H
    rw [hr]
    clear hr hb
    generalize tx l = s at hs he H ⊢
    generalize l.length = n at hs he hln
    generalize tx l.tail = t at he ⊢
    go_enter Tryz.func112, Tryz.ntmps112
    go_wp2_with fail
    refine H.out.mono ?_
    rintro e w1 ⟨rfl, rfl⟩
    go_wp2_with fail
    go_ret
    exact ⟨rfl, rfl⟩
set_option maxHeartbeats 400000 in
theorem trimp_any (c : UInt8) (l : List UInt8) (w : World) : Calls Tryz.prog 80 #[.string (tx l), .string ⟨#[c]⟩] w fun e w' => e = .returned (.string (tx (cutR c l))) ∧ w = w' := by
  have H := Lib.hid (trimp_in c l w)
  go_enter Tryz.func80, Tryz.ntmps80
  go_wp2_with fail
  refine H.out.mono ?_
  rintro e w1 ⟨rfl, rfl⟩
  go_wp2_with fail
  go_ret
  exact ⟨rfl, rfl⟩
theorem idx (l : List UInt8) (k : Nat) (c : UInt8) (h : l[k]? = some c) (w : World) : (Instr.index 9 (.string (tx l)) (.int .i64 (k : Int))).run Tryz.prog w = .ok (.int .u8 (c.toNat : Int)) w := by
  have hk : k < l.length := by
    rcases Nat.lt_or_ge k l.length with h1 | h1
    · exact h1
    · rw [List.getElem?_eq_none h1] at h; cases h
  rw [run_index_string (P := Tryz.prog) w 9 (tx l) .i64 (k : Int) Tryz.underlying9, dif_pos ⟨by omega, by rw [tx_size]; omega⟩]
  have : l[k] = c := by rw [List.getElem?_eq_getElem hk] at h; injection h
  subst this
  rfl
set_option maxHeartbeats 1000000 in
theorem figures_any (l : List UInt8) (w : World) (hl : l.length ≤ 1000000) : Calls Tryz.prog 51 #[.string (tx l)] w fun e w' => e = .returned (.tuple #[.string (tx (figs l)), .string (tx (rest l))]) ∧ ∃ k, w' = w.drewN k := by
  have hs : (tx l).size = l.length := tx_size _
  have hn := figN_le l
  have h1 : (tx l).extract 0 (figN l) = tx (figs l) := by rw [tx_extract, figs_take]; rfl
  have h2 : (tx l).extract (figN l) l.length = tx (rest l) := by rw [tx_extract, List.take_length, rest_drop]
  have HA := Lib.hid (fun k c h => idx l k c h)
  have HS := Lib.hid (And.intro h1 h2)
  have h3 : figN l = l.length → tx (rest l) = ByteArray.empty := fun e => by rw [← rest_drop, e, List.drop_length]; rfl
  have HN := Lib.hid h3
  clear h1 h2 h3
  generalize tx l = s at hs HA HS ⊢
  generalize tx (figs l) = sf at HS ⊢
  generalize tx (rest l) = sr at HS HN ⊢
  go_enter Tryz.func51, Tryz.ntmps51
  go_wp2_with fail
  go_loop [4] (fun i => ∃ k : Nat, i = .int .i64 (k : Int) ∧ k ≤ figN l) (fun i => figN l - (intOf i).toNat)
  case atStart => exact ⟨0, rfl, Nat.zero_le _⟩
  case round =>
    obtain ⟨k, rfl, hk⟩ := hrel
    by_cases hlt : k < figN l
    · obtain ⟨c, hc, hd⟩ := fig_at hlt
      have hi := HA.out k c hc
      have hkl : k < l.length := by omega
      unfold dig at hd
      rw [Bool.and_eq_true] at hd
      have d1 := of_decide_eq_true hd.1
      have d2 := of_decide_eq_true hd.2
      clear hd hc
      generalize c.toNat = m at hi d1 d2
      go_wp2_with fail
      go_round
      case rel => exact ⟨k + 1, by go_num, by omega⟩
      case measure => simp [intOf]; omega
    · have hke : k = figN l := by omega
      subst hke
      by_cases hend : figN l < l.length
      · obtain ⟨c, hc, hd⟩ := fig_end hend
        have hi := HA.out _ c hc
        unfold dig at hd
        rw [Bool.and_eq_false_iff] at hd
        have HD : RowKit.Hid ((figN l : Int) ≤ (l.length : Int)) := Lib.hid (by omega)
        generalize figN l = n at hi HS hn hend HD ⊢
        generalize l.length = L at hs HS hn hend HD ⊢
        have h1 := HS.out.1
        have h2 := HS.out.2
        clear HS HA hlt hk HD
        generalize hm : c.toNat = m at hi hd
        clear hc hm
        rcases hd with hd | hd
        · have d1 := of_decide_eq_false hd
          clear hd
          go_wp2_with fail
          go_quiet (fail)
          go_wp2_with fail
          go_ret2
          exact ⟨rfl, _, rfl⟩
        · have d1 := of_decide_eq_false hd
          clear hd
          by_cases d2 : 48 ≤ m
          · have d3 : decide ((m : Int) ≤ 57) = false := decide_eq_false (by omega)
            go_wp2_with fail
            go_quiet (fail)
            go_wp2_with fail
            go_ret2
            exact ⟨rfl, _, rfl⟩
          · exact absurd d1 (by omega)
      · have hend2 : figN l = l.length := by omega
        have HE := Lib.hid (HN.out hend2)
        rw [hend2] at HS ⊢
        generalize l.length = L at hs HS ⊢
        have h1 := HS.out.1
        clear HS HA hlt hk hend hn hend2 HN
        go_wp2_with fail
        go_quiet (fail)
        go_wp2_with fail
        go_ret2
        exact ⟨by rw [HE.out]; rfl, _, rfl⟩
end Go.Proofs.YtfebfkbdbncihaaGreatDoor
