/- Contract of a file's packed. -/
import Derived.Test.YtpnnlhegncbfaaaGreatDoorGzf
import Derived.Lib.MinMax
namespace Go.Proofs.YtpnnlhegncbfaaaGreatDoor
set_option maxRecDepth 20000
open Go.RowKit

theorem grown_set {w w3 : World} (h : w.grownBy w3 none) (N i : Nat) (v : Value) (hN : w.heap.size ≤ N) : w.grownBy (w3.setCell ⟨N, i, none⟩ v) none :=
  ⟨h.os, h.tape, h.output, by simp [World.setCell]; exact h.size, fun k hk hn => (heap_setCell_other w3 ⟨N, i, none⟩ k v (by show k ≠ N; omega)).trans (h.block k hk hn)⟩
theorem FS.beyond {w w' : World} {g : Nat} {A : Option Addr} {n c : Nat} {b : List UInt8} {lim : Nat} {v : Value} {at_ st : Nat} {text : List UInt8} {q : Nat} (h : FS w g A n c b lim v at_ st text) (hg : w.grownBy w' (some q)) (hq : g < q) (hv : v.ownBlock ≠ some q) : FS w' g A n c b lim v at_ st text := by
  have hb : Below (g + 1) w w' := ⟨hg.os, hg.tape, hg.output, hg.size, fun k hk => hg.block k (by have := h.lt; omega) (fun e => by injection e with e; omega)⟩
  exact ⟨h.row.grown hg (fun e => by injection e with e; omega), h.rd.below (hb.mono (by omega)), h.cap, h.lc, h.form, h.le, World.ownsRow.kept h.own hg (.inr hv), h.tab.block (hb.block 2 (by have := h.pos; omega)), h.tabs.below hb (by omega), h.pos, h.lm, h.tl, h.nn, h.sl⟩
theorem size88 : (Tryz.prog.info? 88).map (·.size) = some 3 := by kernel_rfl
set_option maxHeartbeats 400000 in
theorem code_nil (w : World) : Calls Tryz.prog 25 #[.nilIface] w fun e w' => e = .returned (.int .i64 0) ∧ w' = w := by
  go_enter Tryz.func25, Tryz.ntmps25
  go_wp2
  go_ret
  exact ⟨rfl, rfl⟩
/-- What packed leaves. -/
def PkM (w : World) (g : Nat) (A : Option Addr) (n c : Nat) (b : List UInt8) (lim : Nat) (v : Value) (at_ st : Nat) (text : List UInt8) (e : Ending) (w' : World) : Prop :=
  (∃ k, inflF (8 * (b.drop at_).length + 1) (bitsL (b.drop at_)) (lim - text.length) = .error k ∧ Thrown w k e w') ∨
  (∃ s u, inflF (8 * (b.drop at_).length + 1) (bitsL (b.drop at_)) (lim - text.length) = .ok ((), s) ∧ e = .returned (.agg #[u, .int .i64 (((s.pos + 7) / 8 : Nat) : Int), .int .i64 (s.steps : Int)]) ∧ Own w' w.heap.size u s.out ∧
    FS w' g A n c b lim v (at_ + (s.pos + 7) / 8) st text ∧ w.grownBy w' (some g))
/-- What packed's loop keeps. -/
structure PL (w wr : World) (g r0 : Nat) (A : Option Addr) (n c : Nat) (b : List UInt8) (lim : Nat) (v : Value) (at_ st : Nat) (text : List UInt8) : Prop where
  fs : FS wr g A n c b lim v at_ st text
  row : Row wr r0 #[.slice none 0 0, .int .i64 0, .int .i64 0] 88
  grown : w.grownBy wr none
  hr : w.heap.size ≤ r0
theorem PL.still {w wr w' : World} {g r0 : Nat} {A : Option Addr} {n c : Nat} {b : List UInt8} {lim : Nat} {v : Value} {at_ st : Nat} {text : List UInt8} (h : PL w wr g r0 A n c b lim v at_ st text) (hg : wr.grownBy w' none) : PL w w' g r0 A n c b lim v at_ st text :=
  ⟨h.fs.still hg, h.row.grown hg (by simp), h.grown.trans hg, h.hr⟩
set_option maxHeartbeats 16000000 in
theorem packed_any (g : Nat) (A : Option Addr) (n c : Nat) (b : List UInt8) (lim : Nat) (v : Value) (at_ st : Nat) (text : List UInt8) (w : World) (h : FS w g A n c b lim v at_ st text) :
    Calls Tryz.prog 51 #[.pointer (some ⟨g, 0, none⟩)] w (PkM w g A n c b lim v at_ st text) := by
  have hga := World.grownBy_alloc w (.cells #[.slice none 0 0, .int .i64 0, .int .i64 0] 88) none
  obtain ⟨Av, cv, hv⟩ := h.own.slice
  subst hv
  have HP := Lib.hid (show PL w (w.alloc (.cells #[.slice none 0 0, .int .i64 0, .int .i64 0] 88)) g w.heap.size A n c b lim (.slice Av text.length cv) at_ st text from ⟨h.still hga, Row.new w _ _, hga, Nat.le_refl _⟩)
  have HVB : RowKit.Hid (∀ k, (Value.slice Av text.length cv).ownBlock = some k → k < w.heap.size) := Lib.hid (fun k hk => (World.ownsRow.lt h.own k hk).2)
  have hle := h.le
  have hlc := h.lc
  have hnn := h.nn
  have hform := h.form
  have hcapz := h.cap
  have HGW : RowKit.Hid (g < w.heap.size) := Lib.hid h.lt
  have HTX : RowKit.Hid (lim ≤ 1048576 ∧ text.length ≤ lim) := Lib.hid ⟨h.lm, h.tl⟩
  clear hga
  obtain ⟨d, hd⟩ : ∃ d, n - at_ = d := ⟨_, rfl⟩
  obtain ⟨D, hD⟩ : ∃ D, b.drop at_ = D := ⟨_, rfl⟩
  have HD : RowKit.Hid (b.drop at_ = D ∧ D.length = d) := Lib.hid ⟨hD, by rw [← hD, List.length_drop, h.len, hd]⟩
  clear h hD
  obtain ⟨tl, htl⟩ : ∃ tl, text.length = tl := ⟨_, rfl⟩
  have HTL := Lib.hid htl
  rw [htl] at HP HVB ⊢
  obtain ⟨lm, hlm⟩ : ∃ lm, lim - tl = lm := ⟨_, rfl⟩
  have elm : (lim : Int) - (tl : Int) = (lm : Int) := by have := HTX.out.2; omega
  have hlm2 : lm ≤ 1048576 := by have := HTX.out.1; omega
  have ewl : IntKind.i64.wrap (lm : Int) = (lm : Int) := wrap64_in _ (by omega) (by omega)
  have HLM : RowKit.Hid (lim - text.length = lm) := Lib.hid (by rw [htl]; exact hlm)
  clear htl hlm
  go_enter Tryz.func51, Tryz.ntmps51
  go_wp2_with fail
  rename_i K hK
  generalize w.alloc (.cells #[.slice none 0 0, .int .i64 0, .int .i64 0] 88) = w1 at HP ⊢
  obtain ⟨r0, hr0⟩ : ∃ r0, w.heap.size = r0 := ⟨_, rfl⟩
  rw [hr0] at HP HVB ⊢
  have HR0 := Lib.hid hr0
  clear hr0
  have hdn : d ≤ 1000000 := by omega
  have main : ∀ (sv : Value) (A1 : Option Addr) (c1 : Nat) (w2 : World), RowKit.Hid ((A1 = none → c1 = 0) ∧ d ≤ c1 ∧ ∀ wx : World, FS wx g A n c b lim (.slice Av tl cv) at_ st text → Rd wx g A1 d (us D)) →
      RowKit.Hid (PL w w2 g r0 A n c b lim (.slice Av tl cv) at_ st text) → K ⟨#[.pointer (some ⟨g, 0, none⟩), undef, .pointer (some ⟨r0, 0, none⟩), .slice A1 d c1, undef, undef, undef, undef, .pointer (some ⟨g, 0, none⟩), .pointer (some ⟨g, 0, none⟩), .pointer (some ⟨g, 0, none⟩), sv, .pointer (some ⟨g, 0, none⟩), .pointer (some ⟨g, 0, none⟩), .pointer (some ⟨g, 1, none⟩), .int .i64 (at_ : Int), .slice A1 d c1, undef, undef, undef, undef, undef, undef, undef, undef, undef, undef, undef, undef, undef, undef, undef, undef, undef, undef, undef, undef, undef, undef, undef, undef, undef, undef, undef, undef, undef, undef, undef, undef, undef, undef, undef, undef, undef, undef, undef, undef, undef, undef, undef, undef, undef], []⟩ w2 := by
    intro sv A1 c1 w2 HRS HP2
    clear HP
    refine hK _ _ ?_
    clear hform hcapz
    go_wp2_with fail
    go_loopw [4] (fun sz wr => ∃ S : Nat, sz = .int .i64 (S : Int) ∧ 256 ≤ S ∧ S ≤ 16000000 ∧ PL w wr g r0 A n c b lim (.slice Av tl cv) at_ st text) (fun sz _ => d - (intOf sz).toNat)
    case atStart => exact ⟨256, rfl, by decide, by decide, HP2.out⟩
    case round =>
      clear HP2
      obtain ⟨S, rfl, hS, hS2, hP⟩ := hrel
      have HP := Lib.hid hP
      clear hP
      obtain ⟨m, hm⟩ : ∃ m, min S d = m := ⟨_, rfl⟩
      have em : min (S : Int) (d : Int) = (m : Int) := by omega
      have hmd : m ≤ d := by omega
      have hmc : m ≤ c1 := by have := HRS.out.2.1; omega
      have HM : RowKit.Hid ((m < d → S < d) ∧ (D.take m).length = m) := Lib.hid ⟨by omega, by rw [List.length_take, HD.out.2]; omega⟩
      have p2 : wr.cell? ⟨g, 2, none⟩ = some (.slice Av tl cv) := HP.out.fs.row.cell 2
      have p3 : wr.cell? ⟨g, 3, none⟩ = some (.int .i64 (lim : Int)) := HP.out.fs.row.cell 3
      have p2a : ∀ o, (wr.alloc o).cell? ⟨g, 2, none⟩ = some (.slice Av tl cv) := fun o => Lib.cell?_alloc_marked o p2
      have p3a : ∀ o, (wr.alloc o).cell? ⟨g, 3, none⟩ = some (.int .i64 (lim : Int)) := fun o => Lib.cell?_alloc_marked o p3
      clear hm
      go_wp2_with fail
      obtain ⟨X, hX⟩ : ∃ X, inflF (8 * (D.take m).length + 1) (bitsL (D.take m)) lm = X := ⟨_, rfl⟩
      have HIN : RowKit.Hid (∀ wx : World, wr.grownBy wx none → Calls Tryz.prog 67 #[.slice A1 m c1, .int .i64 (lm : Int)] wx (InfM wx (D.take m) lm)) := Lib.hid (fun wx hg => by
        have hf := HP.out.fs.still hg
        exact inflate_any A1 m c1 (D.take m) lm wx ((rd_head (HRS.out.2.2 wx hf) m hmd).more (Nat.le_of_lt hf.lt)) HRS.out.1 (by omega) hlm2 hf.tab (Nat.lt_trans hf.pos hf.lt))
      have HWH : RowKit.Hid (inflF (8 * D.length + 1) (bitsL D) lm = X ∨ X = .error 10) := Lib.hid (by
        by_cases h10 : X = .error 10
        · exact .inr h10
        · left
          have := infl_piece (a := D.take m) (b := D.drop m) hX h10
          rwa [List.take_append_drop] at this)
      have hgz := World.grownBy_alloc wr (.cells #[.slice none 0 0, .int .i64 0, .int .i64 0] 88) none
      have hnew : Row (wr.alloc (.cells #[.slice none 0 0, .int .i64 0, .int .i64 0] 88)).drew wr.heap.size #[.slice none 0 0, .int .i64 0, .int .i64 0] 88 := Row.new wr _ _
      have HNL : RowKit.Hid (g < wr.heap.size ∧ r0 + 1 ≤ wr.heap.size) := Lib.hid ⟨HP.out.fs.lt, HP.out.row.lt⟩
      cases X with
      | error k =>
        have HC : RowKit.Hid (∀ wx : World, wr.grownBy wx none → Calls Tryz.prog 67 #[.slice A1 m c1, .int .i64 (lm : Int)] wx fun e w' => e = .returned (.tuple #[.agg #[.slice none 0 0, .int .i64 0, .int .i64 0], .iface 39 (.int .i64 (k : Int))]) ∧ wx.grownBy w' none) := Lib.hid (fun wx hg => (HIN.out wx hg).mono fun e w' ⟨hb, hh⟩ => by
          rcases hh with ⟨k', hk', e1⟩ | ⟨s, u, hs, _, _⟩
          · rw [hX] at hk'
            injection hk' with hk'
            subst hk'
            exact ⟨e1, grown_of_below hb⟩
          · rw [hX] at hs; cases hs)
        have HCB : RowKit.Hid (Calls Tryz.prog 67 #[.slice A1 m c1, .int .i64 (lm : Int)] wr.drew fun e w' => e = .returned (.tuple #[.agg #[.slice none 0 0, .int .i64 0, .int .i64 0], .iface 39 (.int .i64 (k : Int))]) ∧ RowKit.Hid (wr.grownBy w' none)) := Lib.hid ((HC.out wr.drew (grown_drewN wr 1)).mono fun e w' ⟨h1, h2⟩ => ⟨h1, Lib.hid ((grown_drewN wr 1).trans h2)⟩)
        have HCA : RowKit.Hid (Calls Tryz.prog 67 #[.slice A1 m c1, .int .i64 (lm : Int)] (wr.alloc (.cells #[.slice none 0 0, .int .i64 0, .int .i64 0] 88)).drew fun e w' => e = .returned (.tuple #[.agg #[.slice none 0 0, .int .i64 0, .int .i64 0], .iface 39 (.int .i64 (k : Int))]) ∧ RowKit.Hid (wr.grownBy w' none) ∧
            w'.cell? ⟨wr.heap.size, 0, none⟩ = some (.slice none 0 0) ∧ w'.cell? ⟨wr.heap.size, 1, none⟩ = some (.int .i64 0) ∧ w'.cell? ⟨wr.heap.size, 2, none⟩ = some (.int .i64 0) ∧ w'.frozen? ⟨wr.heap.size, 0, none⟩ = false ∧ w'.frozen? ⟨wr.heap.size, 1, none⟩ = false ∧ w'.frozen? ⟨wr.heap.size, 2, none⟩ = false) := Lib.hid ((HC.out _ (hgz.trans (grown_drewN _ 1))).mono fun e w' ⟨h1, h2⟩ => by
          have hrw := hnew.grown h2 (by simp)
          exact ⟨h1, Lib.hid ((hgz.trans (grown_drewN _ 1)).trans h2), hrw.cell 0, hrw.cell 1, hrw.cell 2, hrw.thawed 0, hrw.thawed 1, hrw.thawed 2⟩)
        have HXX := Lib.hid hX
        clear HIN HC hgz hnew hX
        go_region_with (first | (refine HCA.out.mono ?_; rintro e w3 ⟨rfl, hA3, a0, a1, a2, b0, b1, b2⟩) | (refine HCB.out.mono ?_; rintro e w3 ⟨rfl, hg3⟩))
        all_goals first
          | (have HL := Lib.hid (HP.out.still (grown_set (grown_set (grown_set hA3.out wr.heap.size 0 (.slice none 0 0) (Nat.le_refl _)) wr.heap.size 1 (.int .i64 0) (Nat.le_refl _)) wr.heap.size 2 (.int .i64 0) (Nat.le_refl _)))
             clear a0 a1 a2 b0 b1 b2 hA3
             generalize ((w3.setCell ⟨wr.heap.size, 0, none⟩ (.slice none 0 0)).setCell ⟨wr.heap.size, 1, none⟩ (.int .i64 0)).setCell ⟨wr.heap.size, 2, none⟩ (.int .i64 0) = w4 at HL ⊢)
          | (have HL := Lib.hid (HP.out.still (hg3.out.trans (World.grownBy_alloc w3 (.cells #[.slice none 0 0, .int .i64 0, .int .i64 0] 88) none)))
             clear hg3
             generalize w3.alloc (.cells #[.slice none 0 0, .int .i64 0, .int .i64 0] 88) = w4 at HL ⊢)
        all_goals
          have HCE := Lib.hid (code_errno (k : Int) w4)
          have HPE := Lib.hid (pass_errno (k : Int) w4)
          clear HCA HCB HP p2 p3 p2a p3a
          by_cases hk10 : k = 10 ∧ m < d
          · obtain ⟨hk1, hk2⟩ := hk10
            subst hk1
            have hSd : S < d := HM.out.1 hk2
            have t1 : (((10 : Nat) : Int) == 10) = true := rfl
            have t2 : decide ((m : Int) < (d : Int)) = true := decide_eq_true (by omega)
            have t3 : decide (m < d) = true := decide_eq_true (by omega)
            have e16 : IntKind.i64.wrap ((S : Int) * 16) = (S : Int) * 16 := wrap64_in _ (by omega) (by omega)
            rw [show ((10 : Nat) : Int) = 10 from rfl] at HCE ⊢
            go_wp2_with fail
            refine HCE.out.mono ?_
            rintro e wz ⟨rfl, rfl⟩
            go_wp2_with fail
            go_roundw
            case rel => exact ⟨S * 16, by simp, by omega, by omega, HL.out⟩
            case measure => simp [intOf]; omega
          · have HPK : RowKit.Hid (inflF (8 * (b.drop at_).length + 1) (bitsL (b.drop at_)) (lim - text.length) = .error k) := Lib.hid (by
              rw [HD.out.1, HLM.out]
              rcases HWH.out with h1 | h1
              · exact h1
              · injection h1 with h1
                have hmd2 : m = d := by omega
                have h2 := HXX.out
                rwa [List.take_of_length_le (by rw [HD.out.2]; omega)] at h2)
            have HTH : RowKit.Hid (Thrown w k (.panicked (flt ⟨w4.heap.size, 0, none⟩)) (w4.alloc (.cells #[.int .i64 (k : Int), .string ⟨#[]⟩] 80))) := Lib.hid
              ⟨w4.heap.size, rfl, (Row.new w4 #[.int .i64 (k : Int), .string ⟨#[]⟩] 80).cell 0, HL.out.grown.trans (World.grownBy_alloc w4 _ none), HL.out.grown.size, by simp⟩
            by_cases hk1 : k = 10
            · subst hk1
              have t2 : decide ((m : Int) < (d : Int)) = false := decide_eq_false (by omega)
              have t3 : decide (m < d) = false := decide_eq_false (by omega)
              have t4 : ¬ m < d := by omega
              rw [show ((10 : Nat) : Int) = 10 from rfl] at HCE HPE ⊢
              go_wp2_with fail
              refine HCE.out.mono ?_
              rintro e wz ⟨rfl, rfl⟩
              go_wp2_with fail
              refine HPE.out.mono ?_
              rintro e wy ⟨rfl, rfl⟩
              exact ⟨rfl, .inl ⟨10, HPK.out, HTH.out⟩⟩
            · have t1 : ((k : Int) == 10) = false := by rw [beq_eq_false_iff_ne]; omega
              go_wp2_with fail
              refine HCE.out.mono ?_
              rintro e wz ⟨rfl, rfl⟩
              go_wp2_with fail
              refine HPE.out.mono ?_
              rintro e wy ⟨rfl, rfl⟩
              exact ⟨rfl, .inl ⟨k, HPK.out, HTH.out⟩⟩
      | ok x =>
        obtain ⟨u0, s⟩ := x
        have hbd := infl_bounds (bits_of (D.take m)) hX
        rw [bitsL_length, HM.out.2] at hbd
        obtain ⟨us, hus⟩ : ∃ us, (s.pos + 7) / 8 = us := ⟨_, rfl⟩
        obtain ⟨sk, hsk⟩ : ∃ sk, s.steps = sk := ⟨_, rfl⟩
        obtain ⟨ol, hol⟩ : ∃ ol, s.out.length = ol := ⟨_, rfl⟩
        have husd : us ≤ d := by omega
        have HPK : RowKit.Hid (inflF (8 * (b.drop at_).length + 1) (bitsL (b.drop at_)) (lim - text.length) = .ok ((), s)) := Lib.hid (by
          rw [HD.out.1, HLM.out]
          rcases HWH.out with h1 | h1
          · exact h1
          · cases h1)
        have HC : RowKit.Hid (∀ wx : World, wr.grownBy wx none → Calls Tryz.prog 67 #[.slice A1 m c1, .int .i64 (lm : Int)] wx fun e w' => ∃ Au cu, e = .returned (.tuple #[.agg #[.slice Au ol cu, .int .i64 (us : Int), .int .i64 (sk : Int)], .nilIface]) ∧ wx.grownBy w' none ∧ Own w' wx.heap.size (.slice Au ol cu) s.out) := Lib.hid (fun wx hg => (HIN.out wx hg).mono fun e w' ⟨hb, hh⟩ => by
          rcases hh with ⟨k', hk', e1⟩ | ⟨s', u, hs, e1, ho⟩
          · rw [hX] at hk'; cases hk'
          · rw [hX] at hs
            injection hs with hs
            injection hs with _ hs
            subst hs
            obtain ⟨Au, cu, rfl⟩ := ho.slice
            rw [hol] at ho e1
            rw [hus, hsk] at e1
            exact ⟨Au, cu, e1, grown_of_below hb, ho⟩)
        have HUS := Lib.hid (And.intro hus (And.intro hsk hol))
        have HCB : RowKit.Hid (Calls Tryz.prog 67 #[.slice A1 m c1, .int .i64 (lm : Int)] wr.drew fun e w' => ∃ Au cu, e = .returned (.tuple #[.agg #[.slice Au ol cu, .int .i64 (us : Int), .int .i64 (sk : Int)], .nilIface]) ∧ RowKit.Hid (wr.grownBy w' none ∧ Own w' wr.heap.size (.slice Au ol cu) s.out)) := Lib.hid ((HC.out wr.drew (grown_drewN wr 1)).mono fun e w' ⟨Au, cu, h1, h2, h3⟩ => ⟨Au, cu, h1, Lib.hid ⟨(grown_drewN wr 1).trans h2, h3⟩⟩)
        have HCA : RowKit.Hid (Calls Tryz.prog 67 #[.slice A1 m c1, .int .i64 (lm : Int)] (wr.alloc (.cells #[.slice none 0 0, .int .i64 0, .int .i64 0] 88)).drew fun e w' => ∃ Au cu, e = .returned (.tuple #[.agg #[.slice Au ol cu, .int .i64 (us : Int), .int .i64 (sk : Int)], .nilIface]) ∧ RowKit.Hid (wr.grownBy w' none ∧ Own w' (wr.heap.size + 1) (.slice Au ol cu) s.out ∧ Row w' wr.heap.size #[.slice none 0 0, .int .i64 0, .int .i64 0] 88) ∧
            w'.cell? ⟨wr.heap.size, 0, none⟩ = some (.slice none 0 0) ∧ w'.cell? ⟨wr.heap.size, 1, none⟩ = some (.int .i64 0) ∧ w'.cell? ⟨wr.heap.size, 2, none⟩ = some (.int .i64 0) ∧ w'.frozen? ⟨wr.heap.size, 0, none⟩ = false ∧ w'.frozen? ⟨wr.heap.size, 1, none⟩ = false ∧ w'.frozen? ⟨wr.heap.size, 2, none⟩ = false) := Lib.hid ((HC.out _ (hgz.trans (grown_drewN _ 1))).mono fun e w' ⟨Au, cu, h1, h2, h3⟩ => by
          have hrw := hnew.grown h2 (by simp)
          replace h3 := own_mono (B' := wr.heap.size + 1) h3 (by show wr.heap.size + 1 ≤ (wr.alloc _).heap.size; simp)
          exact ⟨Au, cu, h1, Lib.hid ⟨(hgz.trans (grown_drewN _ 1)).trans h2, h3, hrw⟩, hrw.cell 0, hrw.cell 1, hrw.cell 2, hrw.thawed 0, hrw.thawed 1, hrw.thawed 2⟩)
        clear HIN HC hgz hnew hX hbd hus hsk hol HWH
        go_region_with (first | (refine HCA.out.mono ?_; rintro e w3 ⟨Au, cu, rfl, hA3, a0, a1, a2, b0, b1, b2⟩) | (refine HCB.out.mono ?_; rintro e w3 ⟨Au, cu, rfl, hg3⟩))
        all_goals first
          | (have HL : RowKit.Hid (PL w (((w3.setCell ⟨wr.heap.size, 0, none⟩ (.slice Au ol cu)).setCell ⟨wr.heap.size, 1, none⟩ (.int .i64 (us : Int))).setCell ⟨wr.heap.size, 2, none⟩ (.int .i64 (sk : Int))) g r0 A n c b lim (.slice Av tl cv) at_ st text ∧ Own (((w3.setCell ⟨wr.heap.size, 0, none⟩ (.slice Au ol cu)).setCell ⟨wr.heap.size, 1, none⟩ (.int .i64 (us : Int))).setCell ⟨wr.heap.size, 2, none⟩ (.int .i64 (sk : Int))) (r0 + 1) (.slice Au ol cu) s.out ∧
                 Row (((w3.setCell ⟨wr.heap.size, 0, none⟩ (.slice Au ol cu)).setCell ⟨wr.heap.size, 1, none⟩ (.int .i64 (us : Int))).setCell ⟨wr.heap.size, 2, none⟩ (.int .i64 (sk : Int))) wr.heap.size #[.slice Au ol cu, .int .i64 (us : Int), .int .i64 (sk : Int)] 88) := Lib.hid
               ⟨HP.out.still (grown_set (grown_set (grown_set hA3.out.1 wr.heap.size 0 (.slice Au ol cu) (Nat.le_refl _)) wr.heap.size 1 (.int .i64 (us : Int)) (Nat.le_refl _)) wr.heap.size 2 (.int .i64 (sk : Int)) (Nat.le_refl _)),
                own_mono (World.ownsRow.kept hA3.out.2.1 (((grown_setCell w3 wr.heap.size 0 (.slice Au ol cu)).trans (grown_setCell _ wr.heap.size 1 (.int .i64 (us : Int)))).trans (grown_setCell _ wr.heap.size 2 (.int .i64 (sk : Int)))) (.inr (fun e => by have := (World.ownsRow.lt hA3.out.2.1 _ e).1; omega))) (by have := HNL.out.2; omega),
                by simpa using ((hA3.out.2.2.set 0 (.slice Au ol cu)).set 1 (.int .i64 (us : Int))).set 2 (.int .i64 (sk : Int))⟩
             clear a0 a1 a2 b0 b1 b2 hA3
             generalize ((w3.setCell ⟨wr.heap.size, 0, none⟩ (.slice Au ol cu)).setCell ⟨wr.heap.size, 1, none⟩ (.int .i64 (us : Int))).setCell ⟨wr.heap.size, 2, none⟩ (.int .i64 (sk : Int)) = w4 at HL ⊢
             generalize wr.heap.size = N at HL HNL ⊢)
          | (have HL : RowKit.Hid (PL w (w3.alloc (.cells #[.slice Au ol cu, .int .i64 (us : Int), .int .i64 (sk : Int)] 88)) g r0 A n c b lim (.slice Av tl cv) at_ st text ∧ Own (w3.alloc (.cells #[.slice Au ol cu, .int .i64 (us : Int), .int .i64 (sk : Int)] 88)) (r0 + 1) (.slice Au ol cu) s.out ∧
                 Row (w3.alloc (.cells #[.slice Au ol cu, .int .i64 (us : Int), .int .i64 (sk : Int)] 88)) w3.heap.size #[.slice Au ol cu, .int .i64 (us : Int), .int .i64 (sk : Int)] 88) := Lib.hid
               ⟨HP.out.still (hg3.out.1.trans (World.grownBy_alloc w3 _ none)), own_mono (World.ownsRow.alloc hg3.out.2 _) HNL.out.2, Row.new w3 _ _⟩
             have HNL2 : RowKit.Hid (g < w3.heap.size ∧ r0 + 1 ≤ w3.heap.size) := Lib.hid ⟨Nat.lt_of_lt_of_le HNL.out.1 hg3.out.1.size, Nat.le_trans HNL.out.2 hg3.out.1.size⟩
             clear hg3 HNL
             generalize w3.alloc (.cells #[.slice Au ol cu, .int .i64 (us : Int), .int .i64 (sk : Int)] 88) = w4 at HL ⊢
             generalize w3.heap.size = N at HL HNL2 ⊢
             have HNL := HNL2
             clear HNL2)
        all_goals
          have HCE := Lib.hid (code_nil w4)
          have HPE := Lib.hid (pass_nil w4)
          have hgN : g ≠ N := by have := HNL.out; omega
          clear HCA HCB HP p2 p3 p2a p3a
          obtain ⟨np, hnp⟩ : ∃ np, at_ + us = np := ⟨_, rfl⟩
          have enp : (at_ : Int) + (us : Int) = (np : Int) := by omega
          have hnpn : np ≤ n := by omega
          have ewn : IntKind.i64.wrap (np : Int) = (np : Int) := wrap64_in _ (by omega) (by omega)
          have HNP := Lib.hid hnp
          clear hnp
          go_wp2_with fail
          refine HCE.out.mono ?_
          rintro e wz ⟨rfl, hwz⟩
          rw [hwz]
          clear hwz
          go_wp2_with fail
          refine HPE.out.mono ?_
          rintro e wy ⟨rfl, hwy⟩
          rw [← hwy]
          clear hwy
          have g1 : w4.cell? ⟨g, 1, none⟩ = some (.int .i64 (at_ : Int)) := HL.out.1.fs.row.cell 1
          have fg1 := HL.out.1.fs.row.thawed 1
          have n1 : w4.cell? ⟨N, 1, none⟩ = some (.int .i64 (us : Int)) := HL.out.2.2.cell 1
          go_wp2_with fail
          go_region
          have hgw5 : w4.grownBy ((w4.setCell ⟨g, 1, none⟩ (.int .i64 (np : Int))).drew) (some g) := grown_drew (grown_setCell w4 g 1 _)
          have HF5 : RowKit.Hid (FS ((w4.setCell ⟨g, 1, none⟩ (.int .i64 (np : Int))).drew) g A n c b lim (.slice Av tl cv) np st text) := Lib.hid ((HL.out.1.fs.setAt np (np : Int) rfl (by omega) hnpn).still (grown_drewN _ 1))
          have HN5 := Lib.hid (HL.out.2.2.grown hgw5 (fun e => by injection e with e; exact hgN e.symm))
          have HR5 := Lib.hid (HL.out.1.row.grown hgw5 (fun e => by injection e with e; have h1 := HL.out.1.hr; have h2 := HGW.out; omega))
          have HO5 : RowKit.Hid (Own ((w4.setCell ⟨g, 1, none⟩ (.int .i64 (np : Int))).drew) (r0 + 1) (.slice Au ol cu) s.out) := Lib.hid (World.ownsRow.kept HL.out.2.1 hgw5 (.inr (fun e => by have h1 := (World.ownsRow.lt HL.out.2.1 _ e).1; have h2 := HGW.out; have h3 := HR0.out; omega)))
          have HG5 : RowKit.Hid (w.grownBy ((w4.setCell ⟨g, 1, none⟩ (.int .i64 (np : Int))).drew) (some g)) := Lib.hid ((grown_any HL.out.1.grown (some g)).trans hgw5)
          clear g1 fg1 n1 HL hgw5 HCE HPE
          generalize (w4.setCell ⟨g, 1, none⟩ (.int .i64 (np : Int))).drew = w5 at HF5 HN5 HR5 HO5 HG5 ⊢
          have n0 : w5.cell? ⟨N, 0, none⟩ = some (.slice Au ol cu) := HN5.out.cell 0
          have n1 : w5.cell? ⟨N, 1, none⟩ = some (.int .i64 (us : Int)) := HN5.out.cell 1
          have n2 : w5.cell? ⟨N, 2, none⟩ = some (.int .i64 (sk : Int)) := HN5.out.cell 2
          have k0 : w5.cell? ⟨r0, 0, none⟩ = some (.slice none 0 0) := HR5.out.cell 0
          have k1 : w5.cell? ⟨r0, 1, none⟩ = some (.int .i64 0) := HR5.out.cell 1
          have k2 : w5.cell? ⟨r0, 2, none⟩ = some (.int .i64 0) := HR5.out.cell 2
          have z0 := HR5.out.thawed 0
          have z1 := HR5.out.thawed 1
          have z2 := HR5.out.thawed 2
          go_wp2_with fail
          have hrow : Row (((w5.setCell ⟨r0, 0, none⟩ (.slice Au ol cu)).setCell ⟨r0, 1, none⟩ (.int .i64 (us : Int))).setCell ⟨r0, 2, none⟩ (.int .i64 (sk : Int))) r0 #[.slice Au ol cu, .int .i64 (us : Int), .int .i64 (sk : Int)] 88 := by
            simpa using ((HR5.out.set 0 (.slice Au ol cu)).set 1 (.int .i64 (us : Int))).set 2 (.int .i64 (sk : Int))
          have hgr : w5.grownBy (((w5.setCell ⟨r0, 0, none⟩ (.slice Au ol cu)).setCell ⟨r0, 1, none⟩ (.int .i64 (us : Int))).setCell ⟨r0, 2, none⟩ (.int .i64 (sk : Int))) (some r0) := ((grown_setCell w5 r0 0 _).trans (grown_setCell _ r0 1 _)).trans (grown_setCell _ r0 2 _)
          refine bodyPost_ret (results_cell_row rfl _ _ r0 88 _ (0, 0) _ rfl hrow Tryz.underlying88 rfl size88) rfl ?_
          refine .inr ⟨s, .slice Au ol cu, HPK.out, by rw [HUS.out.1, HUS.out.2.1], ?_, ?_, ?_⟩
          · exact own_mono (World.ownsRow.kept HO5.out hgr (.inr (fun e => by have h1 := (World.ownsRow.lt HO5.out _ e).1; omega))) (by have := HR0.out; omega)
          · rw [HUS.out.1, HNP.out]
            exact HF5.out.beyond hgr (by have := HR0.out; have := HGW.out; omega) (fun e => by have := HVB.out r0 e; omega)
          · have h1 := HG5.out
            exact ⟨hgr.os.trans h1.os, hgr.tape.trans h1.tape, hgr.output.trans h1.output, Nat.le_trans h1.size hgr.size, fun k hk hn => (hgr.block k (Nat.lt_of_lt_of_le hk h1.size) (fun e => by injection e with e; have := HR0.out; omega)).trans (h1.block k hk hn)⟩
  have q0 : w1.cell? ⟨g, 0, none⟩ = some (.slice A n c) := HP.out.fs.row.cell 0
  have q1 : w1.cell? ⟨g, 1, none⟩ = some (.int .i64 (at_ : Int)) := HP.out.fs.row.cell 1
  by_cases hc : at_ = c
  · have hd0 : d = 0 := by omega
    subst hd0
    subst hc
    clear hK
    go_quiet (fail)
    exact main _ A 0 _ (Lib.hid ⟨fun _ => rfl, Nat.le_refl _, fun wx _ => ⟨by rw [us_length, HD.out.2], fun h => absurd h (by decide)⟩⟩) (Lib.hid (HP.out.still (grown_drewN w1 nq)))
  · obtain ⟨q, o, hAq⟩ : ∃ q o, A = some ⟨q, o, none⟩ := by
      rcases hform with e | e
      · have := hcapz e; omega
      · exact e
    subst hAq
    clear hK
    go_quiet (fail)
    exact main _ (some ⟨q, o + at_, none⟩) (c - at_) _ (Lib.hid
      ⟨(fun h => by cases h), by omega, fun wx hf => by
        have h1 := hf.rd.part at_ d (by omega)
        rwa [show ((us b).drop at_).take d = us D by
          rw [show (us b).drop at_ = us D by rw [← HD.out.1]; simp [us, List.map_drop]]
          exact List.take_of_length_le (by rw [us_length, HD.out.2]; exact Nat.le_refl _)] at h1⟩) (Lib.hid (HP.out.still (grown_drewN w1 nq)))
end Go.Proofs.YtpnnlhegncbfaaaGreatDoor
