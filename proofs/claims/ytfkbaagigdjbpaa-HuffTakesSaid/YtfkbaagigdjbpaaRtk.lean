/- Contract of the reference's Take. -/
import Derived.Test.YtfkbaagigdjbpaaRcd
import Derived.Test.YtfkbaagigdjbpaaBack
import Derived.BigQuiet
namespace Go.Proofs.Ytfkbaagigdjbpaa
open Go.RowKit

theorem hiB_inj {a b : List UInt8} (ha : Bin a) (hb : Bin b) (hl : a.length = b.length) (h : hiB a = hiB b) : a = b := by
  have := numB_inj a.reverse b.reverse (bin_rev ha) (bin_rev hb) (by simpa using hl) h
  rw [← List.reverse_reverse a, this, List.reverse_reverse]
/-- A sign's bits, the highest one first. -/
def codeB (ls : List Nat) (s : Nat) : List UInt8 := (lowB (codeAt ls s) (lenAt ls s)).reverse
theorem codeB_length (ls : List Nat) (s : Nat) : (codeB ls s).length = lenAt ls s := by unfold codeB; rw [List.length_reverse, lowB_length]
theorem bin_codeB (ls : List Nat) (s : Nat) : Bin (codeB ls s) := bin_rev (bin_lowB _ _)
theorem codeB_hi {ls : List Nat} (hl : Low ls) (ho : okF (cnt ls)) (s : Nat) : hiB (codeB ls s) = codeAt ls s := hiB_low _ _ (code_pow hl ho s)
theorem strAt_data (ls : List Nat) (s : Nat) : (strAt ls s).data.toList = (codeB ls s).map (· + 48) := by
  unfold strAt rowS figL codeB
  rw [List.take_of_length_le (by rw [List.length_reverse, lowB_length]; exact Nat.le_refl _)]
theorem strAt_size (ls : List Nat) (s : Nat) : (strAt ls s).size = lenAt ls s := by
  show (strAt ls s).data.size = _
  rw [← Array.length_toList, strAt_data, List.length_map, codeB_length]
theorem strAt_at {ls : List Nat} {s k : Nat} {x : UInt8} (h : (codeB ls s)[k]? = some x) (hk : k < (strAt ls s).size) : (strAt ls s)[k] = x + 48 := by
  have h1 : (strAt ls s).data.toList[k]? = some (x + 48) := by rw [strAt_data, List.getElem?_map, h]; rfl
  have h2 := (List.getElem?_eq_some_iff.1 h1).2
  rw [ByteArray.getElem_eq_getElem_data]
  simpa using h2
/-- The bits are the beginning of the sign's code. -/
def begP (ls : List Nat) (M : List UInt8) (s : Nat) : Prop := lenAt ls s ≠ 0 ∧ M.length < lenAt ls s ∧ codeAt ls s / 2 ^ (lenAt ls s - M.length) = hiB M
theorem hit_pre {ls : List Nat} (hl : Low ls) (ho : okF (cnt ls)) {M : List UInt8} (hb : Bin M) {s : Nat} (h : hitP ls M s) : M.take (lenAt ls s) = codeB ls s :=
  hiB_inj (hb.take _) (bin_codeB ls s) (by rw [List.length_take, codeB_length]; exact Nat.min_eq_left h.2.1) (by rw [codeB_hi hl ho, h.2.2])
theorem pre_hit {ls : List Nat} (hl : Low ls) (ho : okF (cnt ls)) {M : List UInt8} {s : Nat} (h0 : lenAt ls s ≠ 0) (h1 : lenAt ls s ≤ M.length) (h : M.take (lenAt ls s) = codeB ls s) : hitP ls M s :=
  ⟨h0, h1, by rw [h, codeB_hi hl ho]⟩
theorem beg_pre {ls : List Nat} (hl : Low ls) (ho : okF (cnt ls)) {M : List UInt8} (hb : Bin M) {s : Nat} (h : begP ls M s) : M = (codeB ls s).take M.length := by
  refine hiB_inj hb ((bin_codeB ls s).take _) (by rw [List.length_take, codeB_length]; have := h.2.1; omega) ?_
  rw [hiB_take (bin_codeB ls s) (Nat.le_of_lt h.2.1) (by rw [codeB_length]; exact Nat.le_refl _), List.take_of_length_le (by rw [codeB_length]; exact Nat.le_refl _), codeB_hi hl ho, h.2.2]
theorem pre_beg {ls : List Nat} (hl : Low ls) (ho : okF (cnt ls)) {M : List UInt8} {s : Nat} (h1 : M.length < lenAt ls s) (h : M = (codeB ls s).take M.length) : begP ls M s := by
  refine ⟨by omega, h1, ?_⟩
  have h2 := hiB_take (bin_codeB ls s) (Nat.le_of_lt h1) (by rw [codeB_length]; exact Nat.le_refl _)
  have e1 : (codeB ls s).take (lenAt ls s) = codeB ls s := List.take_of_length_le (by rw [codeB_length]; exact Nat.le_refl _)
  rw [e1, codeB_hi hl ho, ← h] at h2
  exact h2.symm
/-- A place where the bits differ from the code. -/
theorem off_hit {ls : List Nat} (hl : Low ls) (ho : okF (cnt ls)) {M : List UInt8} (hb : Bin M) {s k : Nat} {x y : UInt8} (hx : (codeB ls s)[k]? = some x) (hy : M[k]? = some y) (hn : x ≠ y) : ¬ hitP ls M s ∧ ¬ begP ls M s := by
  have hkl : k < lenAt ls s := by have := (List.getElem?_eq_some_iff.1 hx).1; rwa [codeB_length] at this
  have hkm : k < M.length := (List.getElem?_eq_some_iff.1 hy).1
  constructor
  · intro h
    have h1 := hit_pre hl ho hb h
    rw [← h1, List.getElem?_take, if_pos hkl, hy] at hx
    injection hx with hx
    exact hn hx.symm
  · intro h
    have h1 := beg_pre hl ho hb h
    rw [h1, List.getElem?_take, if_pos hkm, hx] at hy
    injection hy with hy
    exact hn hy
theorem tk_none {ls : List Nat} {M : List UInt8} (h : ∀ s, s < ls.length → ¬ hitP ls M s) : tkO ls M = none := by
  unfold tkO
  rw [List.find?_eq_none]
  intro s hs
  simp only [decide_eq_true_eq]
  exact h s (List.mem_range.1 hs)
theorem tk_tail {ls : List Nat} (hl : Low ls) {M : List UInt8} (hb : Bin M) (h : tkO ls M = none) : tailP ls M ↔ ∃ s, s < ls.length ∧ begP ls M s := by
  rw [tail_iff hl (tkO_none hb h)]
  exact ⟨fun ⟨s, h1, h2, h3⟩ => ⟨s, lenAt_lt h1, h1, h2, h3⟩, fun ⟨s, _, h1, h2, h3⟩ => ⟨s, h1, h2, h3⟩⟩
theorem toList_eq (a : ByteArray) : a.toList = a.data.toList := by
  have h := Lib.extract_toList a 0 a.size
  rw [ByteArray.extract_zero_size] at h
  rw [h, List.drop_zero, List.take_of_length_le (by simp)]
theorem text_some {a : ByteArray} (h : a.size ≠ 0) : (a.toList == []) = false := by
  rw [beq_eq_false_iff_ne]
  intro e
  rw [toList_eq] at e
  apply h
  show a.data.size = 0
  rw [← Array.length_toList, e]; rfl

theorem step_no {ls : List Nat} {M : List UInt8} {s : Nat} {bb : Bool} (h : (∀ s', s' < s → ¬ hitP ls M s') ∧ (bb = true ↔ ∃ s', s' < s ∧ begP ls M s')) (h1 : ¬ hitP ls M s) (h2 : ¬ begP ls M s) :
    (∀ s', s' < s + 1 → ¬ hitP ls M s') ∧ (bb = true ↔ ∃ s', s' < s + 1 ∧ begP ls M s') := by
  refine ⟨fun s' h' => ?_, ?_⟩
  · rcases Nat.lt_or_ge s' s with h3 | h3
    · exact h.1 s' h3
    · obtain rfl : s' = s := by omega
      exact h1
  · rw [h.2]
    refine ⟨fun ⟨s', h3, h4⟩ => ⟨s', by omega, h4⟩, fun ⟨s', h3, h4⟩ => ⟨s', ?_, h4⟩⟩
    rcases Nat.lt_or_ge s' s with h5 | h5
    · exact h5
    · obtain rfl : s' = s := by omega
      exact absurd h4 h2
theorem step_yes {ls : List Nat} {M : List UInt8} {s : Nat} {bb : Bool} (h : (∀ s', s' < s → ¬ hitP ls M s') ∧ (bb = true ↔ ∃ s', s' < s ∧ begP ls M s')) (h1 : ¬ hitP ls M s) (h2 : begP ls M s) :
    (∀ s', s' < s + 1 → ¬ hitP ls M s') ∧ ∃ s', s' < s + 1 ∧ begP ls M s' := by
  refine ⟨fun s' h' => ?_, ⟨s, by omega, h2⟩⟩
  rcases Nat.lt_or_ge s' s with h3 | h3
  · exact h.1 s' h3
  · obtain rfl : s' = s := by omega
    exact h1
theorem drewN_two (w : World) (a b : Nat) : (w.drewN a).drewN b = w.drewN (a + b) := by
  induction b with
  | zero => rfl
  | succ b ih => rw [← Nat.add_assoc]; exact congrArg World.drew ih
theorem results_three {P : Program} {fn : Func} {p q r : Tmp} (h : fn.results = #[.tmp p, .tmp q, .tmp r]) (tmps : Array Value) (w : World) (u v x : Value) (hp : tmps.getD p undef = u) (hq : tmps.getD q undef = v) (hr : tmps.getD r undef = x) :
    (results fn tmps).run P w = .ok (.tuple #[u, v, x]) w := by
  have hp' : tmps[p]?.getD undef = u := by simpa using hp
  have hq' : tmps[q]?.getD undef = v := by simpa using hq
  have hr' : tmps[r]?.getD undef = x := by simpa using hr
  simp [results, h, hp', hq', hr']

set_option maxHeartbeats 4000000 in
theorem rtake_any (ls : List Nat) (p n : Nat) (A : Option Addr) (m c : Nat) (M : List UInt8) (w : World) (hl : Low ls) (ho : okF (cnt ls)) (hn : ls.length = n) (hn3 : n ≤ 320) (hrow : Row w p (sa (strAt ls) n) 9) (hr : Rd w w.heap.size A m (us M)) (hb : Bin M) (hm : m ≤ 1000) :
    Calls Try.prog 18 #[.slice (some ⟨p, 0, none⟩) n n, .slice A m c] w fun e w' => e = .returned (.tuple #[.int .i64 (tkS ls M : Int), .int .i64 (tkN ls M : Int), .int .i64 (tkE ls M : Int)]) ∧ ∃ k, w' = w.drewN k := by
  have HLO := Lib.hid (And.intro hl ho)
  have HN := Lib.hid hn
  have HR := Lib.hid hr
  have HRow := Lib.hid hrow
  have HBin := Lib.hid hb
  have HML : RowKit.Hid (M.length = m) := Lib.hid (by have := hr.1; rwa [us_length] at this)
  clear hl ho hn hrow hr hb
  go_enter Try.func18, Try.ntmps18
  go_wp2_with fail
  go_loopw [7, 8] (fun bg i wr => ∃ (s t : Nat) (b : Bool), s ≤ n ∧ bg = .bool b ∧ i = .int .i64 (s : Int) ∧ wr = w.drewN t ∧ (∀ s', s' < s → ¬ hitP ls M s') ∧ (b = true ↔ ∃ s', s' < s ∧ begP ls M s')) (fun _ i _ => n - (intOf i).toNat)
  case atStart => exact ⟨0, 0, false, by omega, rfl, rfl, rfl, fun s' h => (by omega), ⟨fun h => (by cases h), fun ⟨s', h, _⟩ => (by omega)⟩⟩
  case round =>
    obtain ⟨s, t, bb, hs, rfl, rfl, hwr, hI, hB⟩ := hrel
    have HI := Lib.hid (And.intro hI hB)
    have HW := Lib.hid hwr
    clear hI hB hwr
    by_cases hsn : s < n
    · have hd : decide ((s : Int) < (n : Int)) = true := decide_eq_true (by omega)
      have c0 : wr.cell? ⟨p, s, none⟩ = some (.string (strAt ls s)) := by rw [HW.out]; exact HRow.out.sa hsn
      have hsz := strAt_size ls s
      have hy15 := lenAt_low HLO.out.1 s
      have HAT : RowKit.Hid (∀ k x, (codeB ls s)[k]? = some x → ∀ hk : k < (strAt ls s).size, (strAt ls s)[k] = x + 48) := Lib.hid (fun k x h hk => strAt_at h hk)
      by_cases h0 : lenAt ls s = 0
      · have he : strAt ls s = ⟨#[]⟩ := by
          apply ByteArray.ext
          apply Array.eq_empty_of_size_eq_zero
          show (strAt ls s).size = 0
          rw [hsz, h0]
        rw [he] at c0
        have HI2 : RowKit.Hid ((∀ s', s' < s + 1 → ¬ hitP ls M s') ∧ (bb = true ↔ ∃ s', s' < s + 1 ∧ begP ls M s')) := Lib.hid ⟨fun s' h' => by
            rcases Nat.lt_or_ge s' s with h1 | h1
            · exact HI.out.1 s' h1
            · obtain rfl : s' = s := by omega
              exact fun h => h.1 h0, by
            rw [HI.out.2]
            exact ⟨fun ⟨s', h1, h2⟩ => ⟨s', by omega, h2⟩, fun ⟨s', h1, h2⟩ => ⟨s', by
              rcases Nat.lt_or_ge s' s with h3 | h3
              · exact h3
              · obtain rfl : s' = s := by omega
                exact absurd h0 h2.1, h2⟩⟩⟩
        clear he hsz h0 HAT HI
        go_wp2_with fail
        go_roundw
        case rel => exact ⟨s + 1, t, bb, by omega, rfl, by simp, HW.out, HI2.out.1, HI2.out.2⟩
        case measure => simp [intOf]; omega
      · have hts := text_some (a := strAt ls s) (by rw [hsz]; exact h0)
        have HH0 := Lib.hid h0
        obtain ⟨y, HY⟩ : ∃ y, RowKit.Hid (lenAt ls s = y) := ⟨_, Lib.hid rfl⟩
        rw [HY.out] at hsz hy15
        generalize strAt ls s = str at c0 hsz HAT hts
        clear h0
        go_wp2_with fail
        go_loopw [10] (fun i wq => ∃ k t' : Nat, k ≤ y ∧ k ≤ m ∧ i = .int .i64 (k : Int) ∧ wq = w.drewN t' ∧ M.take k = (codeB ls s).take k) (fun i _ => y - (intOf i).toNat)
        case atStart => exact ⟨0, t, by omega, by omega, rfl, HW.out, rfl⟩
        case round =>
          clear HW c0
          obtain ⟨k, t', hky, hkm, rfl, hwq, hpre⟩ := hrel
          have HW := Lib.hid hwq
          have HP := Lib.hid hpre
          clear hwq hpre
          by_cases hk1 : k < y
          · have d1 : decide ((k : Int) < (str.size : Int)) = true := decide_eq_true (by omega)
            have hks : k < str.size := by omega
            by_cases hk2 : k < m
            · have d2 : decide ((k : Int) < (m : Int)) = true := decide_eq_true (by omega)
              obtain ⟨x, hx⟩ : ∃ x, (codeB ls s)[k]? = some x := ⟨_, List.getElem?_eq_getElem (by rw [codeB_length, HY.out]; exact hk1)⟩
              have hch := HAT.out k x hx hks
              obtain ⟨b, o, x', rfl, hb, hx', c1⟩ := HR.out.at8 hk2
              replace c1 : wr.cell? ⟨b, o + k, none⟩ = some (.int .u8 (x'.toNat : Int)) := by rw [HW.out]; exact c1
              have hxb := (bin_codeB ls s).at hx
              have hxb' := HBin.out.at hx'
              have HX := Lib.hid (And.intro hx hx')
              have hct : (x + 48).toNat = x.toNat + 48 := by
                rw [UInt8.toNat_add]
                show (x.toNat + 48) % 256 = _
                omega
              obtain ⟨ch, hchv⟩ : ∃ ch, x + 48 = ch := ⟨_, rfl⟩
              rw [hchv] at hch hct
              have hcs : ((ch.toNat : Int) - 48) % 256 = (x.toNat : Int) := by rw [hct]; omega
              clear hx hx' hb hchv
              by_cases heq : x = x'
              · subst heq
                have d3 : ((x.toNat : Int) == (x.toNat : Int)) = true := by simp
                have HP2 : RowKit.Hid (M.take (k + 1) = (codeB ls s).take (k + 1)) := Lib.hid (by rw [take_more HX.out.2, take_more HX.out.1, HP.out])
                go_wp2_with fail
                go_quiet (fail)
                have HW2 : RowKit.Hid (wr.drewN nq = w.drewN (t' + nq)) := Lib.hid (by rw [HW.out]; exact drewN_two w t' nq)
                generalize wr.drewN nq = w6 at HW2 ⊢
                clear HW c1 hch
                go_wp2_with fail
                go_roundw
                case rel => exact ⟨k + 1, t' + nq, by omega, by omega, by simp, HW2.out, HP2.out⟩
                case measure => simp [intOf]; omega
              · have d3 : ((x.toNat : Int) == (x'.toNat : Int)) = false := by
                  rw [beq_eq_false_iff_ne]
                  intro e
                  exact heq (UInt8.toNat_inj.1 (by omega))
                have hoff := off_hit HLO.out.1 HLO.out.2 HBin.out HX.out.1 HX.out.2 heq
                have HI2 := Lib.hid (step_no HI.out hoff.1 hoff.2)
                have d4 : ((k : Int) == (y : Int)) = false := by rw [beq_eq_false_iff_ne]; omega
                have d5 : ((k : Int) == (m : Int)) = false := by rw [beq_eq_false_iff_ne]; omega
                clear heq hoff
                go_wp2_with fail
                go_quiet (fail)
                have HW2 : RowKit.Hid (wr.drewN nq = w.drewN (t' + nq)) := Lib.hid (by rw [HW.out]; exact drewN_two w t' nq)
                generalize wr.drewN nq = w6 at HW2 ⊢
                clear HW c1 hch
                go_wp2_with fail
                go_roundw
                case rel => exact ⟨s + 1, t' + nq, bb, by omega, rfl, by simp, HW2.out, HI2.out.1, HI2.out.2⟩
                case measure => simp [intOf]; omega
            · obtain rfl : k = m := by omega
              have d2 : decide ((k : Int) < (k : Int)) = false := decide_eq_false (by omega)
              have d4 : ((k : Int) == (y : Int)) = false := by rw [beq_eq_false_iff_ne]; omega
              have d5 : ((k : Int) == (k : Int)) = true := by simp
              have hall : M.take k = M := List.take_of_length_le (by rw [HML.out]; exact Nat.le_refl _)
              have hbeg : begP ls M s := pre_beg HLO.out.1 HLO.out.2 (by rw [HML.out, HY.out]; exact hk1) (by rw [HML.out, ← HP.out, hall])
              have HI2 := Lib.hid (step_yes HI.out (fun h => by have h1 := h.2.1; rw [HML.out, HY.out] at h1; omega) hbeg)
              clear hall hbeg
              go_wp2_with fail
              go_quiet (fail)
              have HW2 : RowKit.Hid (wr.drewN nq = w.drewN (t' + nq)) := Lib.hid (by rw [HW.out]; exact drewN_two w t' nq)
              generalize wr.drewN nq = w6 at HW2 ⊢
              clear HW
              go_wp2_with fail
              go_roundw
              case rel => exact ⟨s + 1, t' + nq, true, by omega, rfl, by simp, HW2.out, HI2.out.1, ⟨fun _ => HI2.out.2, fun _ => rfl⟩⟩
              case measure => simp [intOf]; omega
          · obtain rfl : k = y := by omega
            have d1 : decide ((k : Int) < (str.size : Int)) = false := decide_eq_false (by omega)
            have hks : ¬ k < str.size := by omega
            have d4 : ((k : Int) == (k : Int)) = true := by simp
            have hhit : hitP ls M s := pre_hit HLO.out.1 HLO.out.2 HH0.out (by rw [HML.out, HY.out]; exact hkm) (by rw [HY.out, HP.out]; exact List.take_of_length_le (by rw [codeB_length, HY.out]; exact Nat.le_refl _))
            have HO := Lib.hid (tkO_hit HBin.out hhit)
            have HV : RowKit.Hid (tkS ls M = s ∧ tkN ls M = k ∧ tkE ls M = 0) := Lib.hid ⟨by unfold tkS; rw [HO.out]; rfl, by unfold tkN; rw [HO.out]; exact HY.out, by unfold tkE; rw [HO.out]⟩
            clear hhit
            go_wp2_with fail
            go_quiet (fail)
            have HW2 : RowKit.Hid (wr.drewN nq = w.drewN (t' + nq)) := Lib.hid (by rw [HW.out]; exact drewN_two w t' nq)
            generalize wr.drewN nq = w6 at HW2 ⊢
            clear HW
            go_wp2_with fail
            refine bodyPost_ret (v := .tuple #[.int .i64 (s : Int), .int .i64 (k : Int), .int .i64 0]) ?_ rfl ⟨by rw [HV.out.1, HV.out.2.1, HV.out.2.2]; rfl, _, HW2.out⟩
            exact results_three rfl _ _ _ _ _ rfl rfl rfl
    · obtain rfl : s = n := by omega
      have hd : decide ((s : Int) < (s : Int)) = false := decide_eq_false (by omega)
      have HO := Lib.hid (tk_none (ls := ls) (M := M) (fun s' h => HI.out.1 s' (by rw [← HN.out]; exact h)))
      have HT := Lib.hid (tk_tail HLO.out.1 HBin.out HO.out)
      have HTB : RowKit.Hid (tailP ls M ↔ bb = true) := Lib.hid (by rw [HT.out, HI.out.2, HN.out])
      have HV : RowKit.Hid (tkS ls M = 0 ∧ tkN ls M = 0) := Lib.hid ⟨by unfold tkS; rw [HO.out]; rfl, by unfold tkN; rw [HO.out]⟩
      cases bb with
      | true =>
        have HE : RowKit.Hid (tkE ls M = 10) := Lib.hid (by unfold tkE; rw [HO.out]; exact if_pos (HTB.out.2 rfl))
        clear HI
        go_wp2_with fail
        refine bodyPost_ret (v := .tuple #[.int .i64 0, .int .i64 0, .int .i64 10]) ?_ rfl ⟨by rw [HV.out.1, HV.out.2, HE.out]; rfl, _, HW.out⟩
        exact results_three rfl _ _ _ _ _ rfl rfl rfl
      | false =>
        have HE : RowKit.Hid (tkE ls M = 2) := Lib.hid (by unfold tkE; rw [HO.out]; exact if_neg (fun h => by have := HTB.out.1 h; cases this))
        clear HI
        go_wp2_with fail
        refine bodyPost_ret (v := .tuple #[.int .i64 0, .int .i64 0, .int .i64 2]) ?_ rfl ⟨by rw [HV.out.1, HV.out.2, HE.out]; rfl, _, HW.out⟩
        exact results_three rfl _ _ _ _ _ rfl rfl rfl
end Go.Proofs.Ytfkbaagigdjbpaa
