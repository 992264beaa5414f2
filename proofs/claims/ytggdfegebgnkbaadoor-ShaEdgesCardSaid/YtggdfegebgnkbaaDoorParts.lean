/- Contract of the law ShaParts. -/
import Derived.Test.YtggdfegebgnkbaaDoorNone
namespace Go.Proofs.YtggdfegebgnkbaaDoor
open Go.RowKit

theorem grown_of_below {w w' : World} (h : Below w.heap.size w w') : w.grownBy w' none := ⟨h.os, h.tape, h.output, h.size, fun k hk _ => h.block k hk⟩

/-- What the law's loop keeps: the row of all bytes, and the hash of them. -/
structure PR (w : World) (gh B : Nat) (v : Value) (l : List UInt8) (wr : World) : Prop where
  own : Own wr B v l
  hash : HashAt wr gh (puts H0 l)
  below : Below w.heap.size w wr
  tabs : Tabs wr
  size : B ≤ wr.heap.size
theorem PR.after {w : World} {gh B : Nat} {v : Value} {l : List UInt8} {wr w' : World} (h : PR w gh B v l wr) (hb : Below wr.heap.size wr w') : PR w gh B v l w' :=
  ⟨World.ownsRow.kept h.own (grown_of_below hb) (by rcases hv : v.ownBlock with _ | k; exact .inl rfl; exact .inr (by simp)), ⟨h.hash.row.below hb h.hash.row.lt, h.hash.len⟩, h.below.trans (hb.mono h.below.size), h.tabs.below hb h.tabs.size, Nat.le_trans h.size hb.size⟩

theorem PR.push {w : World} {gh B : Nat} {v v' : Value} {l l' : List UInt8} {wr w' : World} (h : PR w gh B v l wr) (h2 : 2 ≤ gh) (hgB : gh < B) (hB : w.heap.size ≤ B) (ho : Own w' B v' l') (hg : wr.grownBy w' v.ownBlock) :
    HashAt w' gh (puts H0 l) ∧ Below w.heap.size w w' ∧ Tabs w' ∧ B ≤ w'.heap.size ∧ Own w' B v' l' := by
  have hk : ∀ k, v.ownBlock = some k → B ≤ k := fun k hk => (World.ownsRow.lt h.own k hk).1
  exact ⟨⟨h.hash.row.grown hg (fun e => by have := hk gh e.symm; omega), h.hash.len⟩, h.below.grown hg h.below.size (fun k e => Nat.le_trans hB (hk k e)), h.tabs.grown hg (fun k e => by have := hk k e; omega), Nat.le_trans h.size hg.size, ho⟩

set_option maxHeartbeats 400000 in
theorem parts_long (A : Option Addr) (n c : Nat) (w : World) (ht : Tabs w) (hn : 40 < n) :
    Calls Tryd.prog 4 #[.slice A n c] w fun e w' => e = .returned (.bool true) ∧ Below w.heap.size w w' := by
  have HT := Lib.hid ht
  clear ht
  go_enter Tryd.func4, Tryd.ntmps4
  go_wp2_with fail
  refine (alive_true w HT.out).mono ?_
  rintro e w1 ⟨rfl, hb1⟩
  have HB1 := Lib.hid hb1
  clear hb1
  go_wp2_with fail
  go_ret
  exact ⟨rfl, HB1.out⟩

set_option maxHeartbeats 400000 in
theorem parts_any (A : Option Addr) (n c : Nat) (vs : List Value) (ls : List (List UInt8)) (w : World) (hr : RdP w A n vs ls) (ht : Tabs w) (hn : n ≤ 40) :
    Calls Tryd.prog 4 #[.slice A n c] w fun e w' => e = .returned (.bool true) ∧ Below w.heap.size w w' := by
  have HR := Lib.hid hr
  have HT := Lib.hid ht
  clear hr ht
  go_enter Tryd.func4, Tryd.ntmps4
  go_wp2_with fail
  refine (alive_true w HT.out).mono ?_
  rintro e w1 ⟨rfl, hb1⟩
  have HB1 := Lib.hid hb1
  clear hb1
  go_wp2_with fail
  refine (new_any w1 (HT.out.below HB1.out HT.out.size)).mono ?_
  rintro e w2 ⟨rfl, hh2, hg2⟩
  have HH2 := Lib.hid hh2
  have HG2 := Lib.hid hg2
  clear hh2 hg2
  go_wp2_with fail
  have hP : PR w w1.heap.size w2.heap.size (.slice (some ⟨w2.heap.size, 0, none⟩) 0 0) [] (w2.alloc (.cells #[] 5)) := by
    have hb2 : Below w.heap.size w w2 := HB1.out.grown HG2.out HB1.out.size (fun _ h => by cases h)
    exact ⟨Own.lit w2 #[] [] 0 rfl rfl (by decide), ⟨HH2.out.row.grown (World.grownBy_alloc w2 _ none) (by simp), rfl⟩, hb2.alloc hb2.size _, HT.out.below (hb2.alloc hb2.size _) HT.out.size, by simp⟩
  have hgB : w1.heap.size < w2.heap.size := HH2.out.row.lt
  have hg1 : w.heap.size ≤ w1.heap.size := HB1.out.size
  generalize w2.alloc (.cells #[] 5) = w3 at hP ⊢
  generalize Value.slice (some ⟨w2.heap.size, 0, none⟩) 0 0 = v0 at hP ⊢
  generalize w2.heap.size = B at hP hgB
  generalize w1.heap.size = gh at hP hgB hg1 ⊢
  have HGB := Lib.hid hgB
  have HG1 := Lib.hid hg1
  clear hgB hg1 HH2 HG2 HB1
  go_loopw [4, 16] (fun v i wr => ∃ k : Nat, k ≤ n ∧ i = .int .i64 k ∧ (ls.take k).flatten.length ≤ 500 * k ∧ PR w gh B v (ls.take k).flatten wr) (fun _ i _ => n - (intOf i).toNat)
  case atStart => exact ⟨0, by omega, rfl, by simp, hP⟩
  case round =>
    clear hP
    obtain ⟨k, hk, rfl, hfl, hP⟩ := hrel
    by_cases hlt : k < n
    · have hdk : decide ((k : Int) < (n : Int)) = true := decide_eq_true (by omega)
      obtain ⟨b, o, A', n', c', l, rfl, hc, hl, hz, hrd⟩ := HR.out.at hlt
      have hb : b < w.heap.size := World.block_lt_of_cell? _ _ hc
      have hc : wr.cell? ⟨b, o + k, none⟩ = some (.slice A' n' c') := (hP.below.cell (p := ⟨b, o + k, none⟩) hb).trans hc
      have hll : l.length = n' := by have := hrd.1; rwa [us_length] at this
      by_cases h5 : 500 < n'
      · have HP := Lib.hid hP
        clear hP hl hrd hz hll
        go_wp2_with fail
        go_ret
        exact ⟨rfl, HP.out.below⟩
      · obtain ⟨F, hF⟩ : ∃ F, (ls.take k).flatten = F := ⟨_, rfl⟩
        obtain ⟨M, hM⟩ : ∃ M, F ++ l = M := ⟨_, rfl⟩
        rw [hF] at hP hfl
        have hML : M.length = F.length + n' := by rw [← hM, List.length_append, hll]
        have hMf : (ls.take (k + 1)).flatten = M := by rw [flat_take ls k l hl, hF, hM]
        obtain ⟨A4, c4, rfl⟩ := hP.own.slice
        have HP := Lib.hid hP
        have HM := Lib.hid hM
        have HMF := Lib.hid hMf
        have HML := Lib.hid hML
        have HRD := Lib.hid hrd
        have HZ := Lib.hid hz
        clear hP hF hM hML hMf hrd hz hl hll
        go_wp2_with (at_builtin; refine cat8 wr rfl (.tmp 23) (.tmp 24) rfl B w.heap.size _ F l A' n' c' rfl rfl HP.out.own (HRD.out.below HP.out.below) HZ.out HP.out.size (by omega) ?_)
        intro v' w' ho hg'
        rw [HM.out] at ho
        have hgB := HGB.out
        have hg1 := HG1.out
        have hts := HT.out.size
        obtain ⟨hh1, hb1, ht1, hs1, ho1⟩ := HP.out.push (by omega) hgB (by omega) ho hg'
        obtain ⟨A5, c5, rfl⟩ := ho1.slice
        have HH1 := Lib.hid hh1
        have HB1 := Lib.hid hb1
        have HT1 := Lib.hid ht1
        have HS1 := Lib.hid hs1
        have HO1 := Lib.hid ho1
        have HRN := Lib.hid (HRD.out.rdN hb1 hg1)
        have HF : RowKit.Hid ((puts H0 F).n = F.length) := Lib.hid (by rw [puts_n]; show 0 + _ = _; omega)
        have HBD : RowKit.Hid ((puts H0 F).n + n' ≤ 1000000) := Lib.hid (by have := HF.out; omega)
        have HML1 : RowKit.Hid (M.length ≤ 100000) := Lib.hid (by have := HML.out; omega)
        clear hgB hg1 hts hh1 hb1 ht1 hs1 ho1 ho hg'
        go_wp2_with fail
        refine (write_any gh A' n' c' l (puts H0 F) w' HH1.out HRN.out HT1.out (by have := HG1.out; have := HT.out.size; omega) HBD.out).mono ?_
        rintro e w2 ⟨rfl, hh2, hg2⟩
        rw [show (puts H0 F).n + n' = M.length by rw [HF.out, HML.out]]
        have hP2 : PR w gh B (.slice A5 M.length c5) M w2 := by
          have hgB := HGB.out
          have hg1 := HG1.out
          have hts := HT.out.size
          refine ⟨World.ownsRow.kept HO1.out hg2 ?_, by rw [← HM.out, puts_append]; exact hh2, HB1.out.grown hg2 HB1.out.size (fun k e => by injection e with e; omega), HT1.out.grown hg2 (fun k e => by injection e with e; omega), Nat.le_trans HS1.out hg2.size⟩
          rcases hv : (Value.slice A5 M.length c5).ownBlock with _ | q
          · exact .inl rfl
          · refine .inr fun e => ?_
            injection e with e
            have := (World.ownsRow.lt HO1.out q hv).1
            omega
        have HP2 := Lib.hid hP2
        have HMN : RowKit.Hid ((puts H0 M).n = M.length) := Lib.hid (by rw [puts_n]; show 0 + _ = _; omega)
        clear hh2 hg2 hP2 HH1 HB1 HT1 HS1 HO1 HRN HF HBD HP
        go_wp2_with fail
        refine (len_any gh (puts H0 M) w2 HP2.out.hash).mono ?_
        rintro e w3 ⟨rfl, rfl⟩
        rw [HMN.out]
        obtain ⟨L, HL⟩ : ∃ L, RowKit.Hid (ofP M = L) := ⟨_, Lib.hid rfl⟩
        have hsame := same25 L (by rw [← HL.out]; rfl)
        go_wp2_with fail
        refine (sum_any gh (puts H0 M) w3 HP2.out.hash HP2.out.tabs (by have := HMN.out; have := HML1.out; omega)).mono ?_
        rintro e w4 ⟨rfl, hb4⟩
        rw [show sumP (puts H0 M) = L from HL.out]
        have HP4 := Lib.hid (HP2.out.after hb4)
        clear hb4 HP2
        go_wp2_with fail
        have hrp := RdP.lit w4 #[.slice A5 M.length c5] [.slice A5 M.length c5] [M] 1 rfl rfl rfl (fun j u l hu hl => by
          match j, hu, hl with
          | 0, hu, hl =>
            injection hu with hu
            injection hl with hl
            subst hu hl
            refine ⟨A5, M.length, c5, rfl, fun e => ?_, HP4.out.own.rd.2⟩
            rcases HP4.out.own.2 with ⟨hv, _⟩ | ⟨q, cap, cur, hv, _⟩
            · injection hv
            · injection hv with h1
              rw [e] at h1
              cases h1)
        have hb5 : Below w4.heap.size w4 (w4.alloc (.cells #[.slice A5 M.length c5] 22)) := (Below.refl _ _).alloc (Nat.le_refl _) _
        have HP5 := Lib.hid (HP4.out.after hb5)
        clear hb5 HP4
        generalize w4.alloc (.cells #[.slice A5 M.length c5] 22) = w5 at hrp HP5 ⊢
        refine (of_any _ 1 1 _ _ w5 hrp HP5.out.tabs (by have := HML1.out; simp; omega) (by decide)).mono ?_
        rintro e w6 ⟨rfl, hb6⟩
        rw [show ofP [M].flatten = L by rw [← HL.out]; simp]
        have HP6 := Lib.hid (HP5.out.after hb6)
        clear hb6 HP5 hrp
        go_wp2_with fail
        go_roundw
        case rel => exact ⟨k + 1, by omega, by simp, by rw [HMF.out]; have := HML.out; omega, by rw [HMF.out]; exact HP6.out⟩
        case measure => simp [intOf]; omega
    · have hkn : k = n := by omega
      subst hkn
      have hdk : decide ((k : Int) < (k : Int)) = false := decide_eq_false (by omega)
      have htk : ls.take k = ls := List.take_of_length_le (by rw [HR.out.lenl]; omega)
      rw [htk] at hP hfl
      obtain ⟨L, HL⟩ : ∃ L, RowKit.Hid (ofP ls.flatten = L) := ⟨_, Lib.hid rfl⟩
      have hsame := same25 L (by rw [← HL.out]; rfl)
      have HMN : RowKit.Hid ((puts H0 ls.flatten).n ≤ 900000) := Lib.hid (by rw [puts_n]; show 0 + _ ≤ _; omega)
      have HFL : RowKit.Hid (ls.flatten.length ≤ 800000) := Lib.hid (by omega)
      have HP := Lib.hid hP
      clear hP hfl htk
      go_wp2_with fail
      refine (of_any A k c vs ls wr (HR.out.below HP.out.below) HP.out.tabs HFL.out (by omega)).mono ?_
      rintro e w2 ⟨rfl, hb2⟩
      rw [HL.out]
      have HP2 := Lib.hid (HP.out.after hb2)
      clear hb2 HP
      go_wp2_with fail
      refine (sum_any gh _ w2 HP2.out.hash HP2.out.tabs HMN.out).mono ?_
      rintro e w3 ⟨rfl, hb3⟩
      rw [show sumP (puts H0 ls.flatten) = L from HL.out]
      have HP3 := Lib.hid (HP2.out.after hb3)
      clear hb3 HP2
      go_wp2_with fail
      refine (sum_any gh _ w3 HP3.out.hash HP3.out.tabs HMN.out).mono ?_
      rintro e w4 ⟨rfl, hb4⟩
      rw [show sumP (puts H0 ls.flatten) = L from HL.out]
      have HP4 := Lib.hid (HP3.out.after hb4)
      clear hb4 HP3
      go_wp2_with fail
      refine (sum_any gh _ w4 HP4.out.hash HP4.out.tabs HMN.out).mono ?_
      rintro e w5 ⟨rfl, hb5⟩
      rw [show sumP (puts H0 ls.flatten) = L from HL.out]
      have HP5 := Lib.hid (HP4.out.after hb5)
      clear hb5 HP4
      go_wp2_with fail
      go_ret
      exact ⟨rfl, HP5.out.below⟩
end Go.Proofs.YtggdfegebgnkbaaDoor
