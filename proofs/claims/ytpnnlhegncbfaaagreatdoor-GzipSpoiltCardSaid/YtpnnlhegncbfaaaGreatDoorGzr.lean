/- Contracts of read and Unpack, whatever comes of the members. -/
import Derived.Test.YtpnnlhegncbfaaaGreatDoorGzg
namespace Go.Proofs.YtpnnlhegncbfaaaGreatDoor
set_option maxRecDepth 20000
open Go.RowKit

def zeroFile : Value := .agg #[.slice none 0 0, .int .i64 0, .slice none 0 0, .int .i64 0, .int .i64 0]
theorem size43 : (Tryz.prog.info? 43).map (·.size) = some 5 := by kernel_rfl
/-- What read leaves. -/
def RdM (w : World) (P : ResG → Prop) (e : Ending) (w' : World) : Prop :=
  Below w.heap.size w w' ∧
    ((∃ k, P (.error k) ∧ e = .returned (.tuple #[zeroFile, .iface 39 (.int .i64 (k : Int))])) ∨
     (∃ A n c x1 u x3 t st, P (.ok (t, st)) ∧ e = .returned (.tuple #[.agg #[.slice A n c, .int .i64 x1, u, .int .i64 x3, .int .i64 ((st : Nat) : Int)], .nilIface]) ∧ Own w' w.heap.size u t))
set_option maxHeartbeats 4000000 in
theorem gread_range (A : Option Addr) (n c : Nat) (x : Int) (w : World) (hx : x < 0 ∨ 1048576 < x) :
    Calls Tryz.prog 15 #[.slice A n c, .int .i64 x] w fun e w' => e = .returned (.tuple #[zeroFile, errV 1]) ∧ Below w.heap.size w w' := by
  have HB : ∀ cs, RowKit.Hid (Below w.heap.size w (w.alloc (.cells cs 43))) := fun cs => Lib.hid (below_make (World.grownBy_alloc w _ none))
  by_cases h0 : x < 0
  · have d0 : decide (x < 0) = true := decide_eq_true h0
    clear hx h0
    go_enter Tryz.func15, Tryz.ntmps15
    go_wp2_with fail
    refine bodyPost_ret (results_two rfl _ _ w.heap.size 43 _ _ _ rfl rfl (Row.new w _ _) Tryz.underlying43 rfl size43) rfl ⟨rfl, (HB _).out⟩
  · have d0 : decide (x < 0) = false := decide_eq_false h0
    have d1 : decide (1048576 < x) = true := decide_eq_true (by omega)
    clear hx h0
    go_enter Tryz.func15, Tryz.ntmps15
    go_wp2_with fail
    refine bodyPost_ret (results_two rfl _ _ w.heap.size 43 _ _ _ rfl rfl (Row.new w _ _) Tryz.underlying43 rfl size43) rfl ⟨rfl, (HB _).out⟩
set_option maxHeartbeats 4000000 in
theorem gread_any (A : Option Addr) (n c : Nat) (b : List UInt8) (lim : Nat) (P : ResG → Prop) (w : World) (hr : Rd w w.heap.size A n (us b)) (hA : A = none → c = 0) (hnc : n ≤ c) (hform : A = none ∨ ∃ q o, A = some ⟨q, o, none⟩) (hn : n ≤ 1000000) (hlim : lim ≤ 1048576) (ht : Tab w) (hts : Tabs w) (h0 : 2 < w.heap.size)
    (hM : ∀ g wx, FS wx g A n c b lim (.slice none 0 0) 0 0 [] → Calls Tryz.prog 24 #[.pointer (some ⟨g, 0, none⟩)] wx (MsM wx g A n c b lim (.slice none 0 0) P)) :
    Calls Tryz.prog 15 #[.slice A n c, .int .i64 (lim : Int)] w (RdM w P) := by
  have d0 : decide ((lim : Int) < 0) = false := decide_eq_false (by omega)
  have d1 : decide (1048576 < (lim : Int)) = false := decide_eq_false (by omega)
  have hga := World.grownBy_alloc w (.cells #[.slice none 0 0, .int .i64 0, .slice none 0 0, .int .i64 0, .int .i64 0] 43) none
  have HR0 := Lib.hid (hr.next (below_make hga))
  have HB0 := Lib.hid (below_make hga)
  have HW0 : RowKit.Hid (Row (w.alloc (.cells #[.slice none 0 0, .int .i64 0, .slice none 0 0, .int .i64 0, .int .i64 0] 43)) w.heap.size #[.slice none 0 0, .int .i64 0, .slice none 0 0, .int .i64 0, .int .i64 0] 43) := Lib.hid (Row.new w _ _)
  have HS0 : RowKit.Hid ((w.alloc (.cells #[.slice none 0 0, .int .i64 0, .slice none 0 0, .int .i64 0, .int .i64 0] 43)).heap.size = w.heap.size + 1) := Lib.hid (by simp)
  have HA := Lib.hid (And.intro hA (And.intro hnc hform))
  have HT := Lib.hid (And.intro ht (And.intro hts h0))
  have HN := Lib.hid (And.intro hn hlim)
  have HM := Lib.hid hM
  clear hr hA hga ht hts h0 hn hnc hform hM
  go_enter Tryz.func15, Tryz.ntmps15
  go_wp2_with fail
  generalize w.alloc (.cells #[.slice none 0 0, .int .i64 0, .slice none 0 0, .int .i64 0, .int .i64 0] 43) = w0 at HR0 HB0 HW0 HS0 ⊢
  generalize hrb : w.heap.size = rb at HW0 HS0 ⊢
  have HRB := Lib.hid hrb
  clear hrb
  obtain ⟨g, hg0⟩ : ∃ g, rb + 1 = g := ⟨_, rfl⟩
  rw [hg0]
  have hgz : w0.heap.size = g := by rw [HS0.out]; exact hg0
  have hga := World.grownBy_alloc w0 (.cells #[.slice A n c, .int .i64 0, .slice none 0 0, .int .i64 (lim : Int), .int .i64 0] 43) none
  have hrowg := Row.new w0 #[.slice A n c, .int .i64 0, .slice none 0 0, .int .i64 (lim : Int), .int .i64 0] 43
  have hszg : (w0.alloc (.cells #[.slice A n c, .int .i64 0, .slice none 0 0, .int .i64 (lim : Int), .int .i64 0] 43)).heap.size = g + 1 := by simp [hgz]
  rw [hgz] at hrowg
  have HWg := Lib.hid (HW0.out.grown hga (by simp))
  have HBg := Lib.hid (HB0.out.grown hga HB0.out.size (fun _ h => by cases h))
  have hsz : w.heap.size ≤ w0.heap.size := HB0.out.size
  have hfs : FS (w0.alloc (.cells #[.slice A n c, .int .i64 0, .slice none 0 0, .int .i64 (lim : Int), .int .i64 0] 43)) g A n c b lim (.slice none 0 0) 0 0 [] :=
    ⟨hrowg, (by have h := HR0.out.below (w' := w0.alloc (.cells #[.slice A n c, .int .i64 0, .slice none 0 0, .int .i64 (lim : Int), .int .i64 0] 43)) ⟨hga.os, hga.tape, hga.output, hga.size, fun k hk => hga.block k hk (by simp)⟩; rwa [hgz] at h), HA.out.1, HA.out.2.1, HA.out.2.2, Nat.zero_le _, Own.nil _ _, HT.out.1.block (HBg.out.block 2 HT.out.2.2), HT.out.2.1.below HBg.out (by have := HT.out.2.2; omega), by have := HT.out.2.2; have := HRB.out; omega, HN.out.2, Nat.zero_le _, HN.out.1, Nat.zero_le _⟩
  have HSG := Lib.hid hszg
  have HMg := Lib.hid hfs
  have HRG : RowKit.Hid (rb < g) := Lib.hid (by omega)
  clear hga hrowg hszg hsz hfs HW0 HB0 HR0 hgz hg0 HS0
  generalize w0.alloc (.cells #[.slice A n c, .int .i64 0, .slice none 0 0, .int .i64 (lim : Int), .int .i64 0] 43) = wg at HWg HBg HSG HMg ⊢
  have ha1 := World.grownBy_alloc wg (.cells #[.pointer none] 75) none
  have ha2 := World.grownBy_alloc (wg.alloc (.cells #[.pointer none] 75)) (.cells #[.bool false] 4) none
  have ha := ha1.trans ha2
  have hn0 : ((wg.alloc (.cells #[.pointer none] 75)).alloc (.cells #[.bool false] 4)).heap.size = g + 3 := by simp [HSG.out]
  have hN1 : Row ((wg.alloc (.cells #[.pointer none] 75)).alloc (.cells #[.bool false] 4)) (g + 1) #[.pointer none] 75 := by
    have := (Row.new wg #[.pointer none] 75).grown ha2 (by simp)
    rwa [HSG.out] at this
  have hN2 : Row ((wg.alloc (.cells #[.pointer none] 75)).alloc (.cells #[.bool false] 4)) (g + 2) #[.bool false] 4 := by
    have := Row.new (wg.alloc (.cells #[.pointer none] 75)) #[.bool false] 4
    rwa [show (wg.alloc (.cells #[.pointer none] 75)).heap.size = g + 2 by simp [HSG.out]] at this
  have HMt := Lib.hid (HMg.out.still ha)
  have HWt := Lib.hid (HWg.out.grown ha (by simp))
  have HBt := Lib.hid (HBg.out.grown ha HBg.out.size (fun _ h => by cases h))
  have HNN := Lib.hid (And.intro hn0 (And.intro hN1 hN2))
  have HCC := Lib.hid (HM.out g _ HMt.out)
  clear ha1 ha2 ha hn0 hN1 hN2
  refine try_cps 24 #[.pointer (some ⟨g, 0, none⟩)] #[] wg _ _ (fun _ _ => rfl) HCC.out ?_
  rintro e w2 hO
  clear HCC
  rw [HSG.out]
  generalize (wg.alloc (.cells #[.pointer none] 75)).alloc (.cells #[.bool false] 4) = wt at HMt HWt HBt HNN hO
  have hown0 : ∀ k, some k ≠ (Value.slice none 0 0).ownBlock := fun k e => by cases e
  obtain ⟨vv, hmv⟩ : ∃ vv, Moves wt w2 g g (.slice none 0 0) vv := by
    rcases hO with ⟨_, _, _, v2, _, _, h3, _⟩ | ⟨v2, _, _, _, _, _, h5⟩
    · exact ⟨v2, h3⟩
    · exact ⟨v2, h5⟩
  obtain ⟨hn0, hN1, hN2⟩ := HNN.out
  have hrg := HRG.out
  have hT1 : Row w2 (g + 1) #[.pointer none] 75 := by unfold Row; rw [hmv.block (g + 1) (by omega) (by omega) (by omega) (hown0 _)]; exact hN1
  have hT2 : Row w2 (g + 2) #[.bool false] 4 := by unfold Row; rw [hmv.block (g + 2) (by omega) (by omega) (by omega) (hown0 _)]; exact hN2
  have hRb : Row w2 rb #[.slice none 0 0, .int .i64 0, .slice none 0 0, .int .i64 0, .int .i64 0] 43 := by unfold Row; rw [hmv.block rb (by omega) (by omega) (by omega) (hown0 _)]; exact HWt.out
  have hBl : Below w.heap.size w w2 := ⟨hmv.os.trans HBt.out.os, hmv.tape.trans HBt.out.tape, hmv.output.trans HBt.out.output, Nat.le_trans HBt.out.size hmv.size, fun k hk => (hmv.block k (by have := HBt.out.size; omega) (by have := HRB.out; omega) (by have := HRB.out; omega) (hown0 _)).trans (HBt.out.block k hk)⟩
  have hTwo : Two (g + 1) w2 := ⟨⟨_, hT1.cell 0⟩, hT1.thawed 0, ⟨_, hT2.cell 0⟩, hT2.thawed 0⟩
  have hsz2 := hmv.size
  refine ⟨hTwo, ?_⟩
  rcases hO with ⟨k, hk, q, v2, rfl, hc2, hg2, hb2⟩ | ⟨v2, st, t, hk, rfl, hf2, hg2⟩
  rotate_left
  · refine .inl ⟨_, rfl, ?_⟩
    dsimp only
    have hap : ∀ k, v2.ownBlock = some k → g + 3 ≤ k := fun k hk => by
      rcases hg2.fresh with e | ⟨j, e, hj⟩
      · rw [e] at hk; cases hk
      · rw [e] at hk; injection hk with hk; omega
    have hrowg : Row (fin2 (g + 1) w2 (.pointer none) false) g (fcells A n c n v2 lim st) 43 := by unfold Row; rw [fin2_blockI w2 _ _ (by omega) (by omega)]; exact hf2.row
    have hrowb : Row (fin2 (g + 1) w2 (.pointer none) false) rb #[.slice none 0 0, .int .i64 0, .slice none 0 0, .int .i64 0, .int .i64 0] 43 := by unfold Row; rw [fin2_blockI w2 _ _ (by omega) (by omega)]; exact hRb
    have hbel := fin2_below (N := g + 1) (.pointer none) false hBl (by have := HRB.out; omega)
    have howns : Own (fin2 (g + 1) w2 (.pointer none) false) (g + 1) v2 t := hf2.own.blocks (fun k hk => fin2_blockI w2 _ _ (by have := hap k hk; omega) (by have := hap k hk; omega))
    obtain ⟨A2, c2, hv2⟩ := howns.slice
    obtain ⟨tl, htl⟩ : ∃ tl, t.length = tl := ⟨_, rfl⟩
    rw [htl] at hv2
    subst hv2
    have HX := Lib.hid hk
    have HRW := Lib.hid hrowb
    have HRGW := Lib.hid hrowg
    have HBL := Lib.hid hbel
    have HOW := Lib.hid howns
    clear hap hrowg hrowb hbel howns hg2 hf2 hmv hn0 hN1 hN2 hT1 hT2 hRb hBl hTwo hsz2 htl HMt HWt HBt HNN HMg HWg HBg hk hown0
    generalize fin2 (g + 1) w2 (.pointer none) false = w3 at HRW HRGW HBL HOW ⊢
    have k0 : w3.cell? ⟨g, 0, none⟩ = some (.slice A n c) := HRGW.out.cell 0
    have k1 : w3.cell? ⟨g, 1, none⟩ = some (.int .i64 (n : Int)) := HRGW.out.cell 1
    have k2 : w3.cell? ⟨g, 2, none⟩ = some (.slice A2 tl c2) := HRGW.out.cell 2
    have k3 : w3.cell? ⟨g, 3, none⟩ = some (.int .i64 (lim : Int)) := HRGW.out.cell 3
    have k4 : w3.cell? ⟨g, 4, none⟩ = some (.int .i64 (st : Int)) := HRGW.out.cell 4
    have b0 : w3.cell? ⟨rb, 0, none⟩ = some (.slice none 0 0) := HRW.out.cell 0
    have b1 : w3.cell? ⟨rb, 1, none⟩ = some (.int .i64 0) := HRW.out.cell 1
    have b2 : w3.cell? ⟨rb, 2, none⟩ = some (.slice none 0 0) := HRW.out.cell 2
    have b3 : w3.cell? ⟨rb, 3, none⟩ = some (.int .i64 0) := HRW.out.cell 3
    have b4 : w3.cell? ⟨rb, 4, none⟩ = some (.int .i64 0) := HRW.out.cell 4
    have f0 := HRW.out.thawed 0
    have f1 := HRW.out.thawed 1
    have f2 := HRW.out.thawed 2
    have f3 := HRW.out.thawed 3
    have f4 := HRW.out.thawed 4
    go_wp2_with fail
    have hr5 := (((((HRW.out.set 0 (.slice A n c)).set 1 (.int .i64 (n : Int))).set 2 (.slice A2 tl c2)).set 3 (.int .i64 (lim : Int))).set 4 (.int .i64 (st : Int)))
    have hg5 : w3.grownBy (((((w3.setCell ⟨rb, 0, none⟩ (.slice A n c)).setCell ⟨rb, 1, none⟩ (.int .i64 (n : Int))).setCell ⟨rb, 2, none⟩ (.slice A2 tl c2)).setCell ⟨rb, 3, none⟩ (.int .i64 (lim : Int))).setCell ⟨rb, 4, none⟩ (.int .i64 (st : Int))) (some rb) := (((((grown_setCell w3 rb 0 (.slice A n c)).trans (grown_setCell _ rb 1 (.int .i64 (n : Int)))).trans (grown_setCell _ rb 2 (.slice A2 tl c2))).trans (grown_setCell _ rb 3 (.int .i64 (lim : Int)))).trans (grown_setCell _ rb 4 (.int .i64 (st : Int))))
    refine bodyPost_ret (results_two rfl _ _ rb 43 _ _ _ rfl rfl hr5 Tryz.underlying43 rfl size43) rfl ?_
    refine ⟨HBL.out.grown hg5 HBL.out.size (fun k hk => by injection hk with hk; have := HRB.out; omega), .inr ⟨A, n, c, (n : Int), .slice A2 tl c2, (lim : Int), t, st, HX.out, rfl, ?_⟩⟩
    refine own_mono (World.ownsRow.kept HOW.out hg5 ?_) (by have := HRB.out; omega)
    right
    intro e
    have := (World.ownsRow.lt HOW.out rb e).1
    omega
  · refine .inr (.inl ⟨some ⟨q, 0, none⟩, [], rfl, rfl, ?_⟩)
    dsimp only
    have hrowb : Row (fin2 (g + 1) w2 (.pointer (some ⟨q, 0, none⟩)) true) rb #[.slice none 0 0, .int .i64 0, .slice none 0 0, .int .i64 0, .int .i64 0] 43 := by unfold Row; rw [fin2_blockI w2 _ _ (by omega) (by omega)]; exact hRb
    have hbel := fin2_below (N := g + 1) (.pointer (some ⟨q, 0, none⟩)) true hBl (by have := HRB.out; omega)
    have hcb : (fin2 (g + 1) w2 (.pointer (some ⟨q, 0, none⟩)) true).cell? ⟨q, 0, none⟩ = some (.int .i64 (k : Int)) := (World.cell?_of_block (w := w2) (a := ⟨q, 0, none⟩) (fin2_blockI w2 _ _ (show q ≠ g + 1 by omega) (show q ≠ g + 1 + 1 by omega))).trans hc2
    have HX := Lib.hid hk
    have HRW := Lib.hid hrowb
    have HBL := Lib.hid hbel
    have HCB := Lib.hid hcb
    clear hrowb hbel hcb hg2 hk hmv hn0 hN1 hN2 hT1 hT2 hRb hBl hTwo hsz2 hb2 hc2 HMt HWt HBt HNN HMg HWg HBg hown0
    generalize fin2 (g + 1) w2 (.pointer (some ⟨q, 0, none⟩)) true = w3 at HRW HBL HCB ⊢
    have b0 : w3.cell? ⟨rb, 0, none⟩ = some (.slice none 0 0) := HRW.out.cell 0
    have b1 : w3.cell? ⟨rb, 1, none⟩ = some (.int .i64 0) := HRW.out.cell 1
    have b2 : w3.cell? ⟨rb, 2, none⟩ = some (.slice none 0 0) := HRW.out.cell 2
    have b3 : w3.cell? ⟨rb, 3, none⟩ = some (.int .i64 0) := HRW.out.cell 3
    have b4 : w3.cell? ⟨rb, 4, none⟩ = some (.int .i64 0) := HRW.out.cell 4
    have f0 := HRW.out.thawed 0
    have f1 := HRW.out.thawed 1
    have f2 := HRW.out.thawed 2
    have f3 := HRW.out.thawed 3
    have f4 := HRW.out.thawed 4
    go_wp2_with fail
    refine (code_fault q 0 k w3 HCB.out).mono ?_
    rintro e w4 ⟨rfl, rfl⟩
    go_wp2_with fail
    have hr5 := (((((HRW.out.set 0 (.slice none 0 0)).set 1 (.int .i64 0)).set 2 (.slice none 0 0)).set 3 (.int .i64 0)).set 4 (.int .i64 0))
    have hg5 : w3.grownBy (((((w3.setCell ⟨rb, 0, none⟩ (.slice none 0 0)).setCell ⟨rb, 1, none⟩ (.int .i64 0)).setCell ⟨rb, 2, none⟩ (.slice none 0 0)).setCell ⟨rb, 3, none⟩ (.int .i64 0)).setCell ⟨rb, 4, none⟩ (.int .i64 0)) (some rb) := (((((grown_setCell w3 rb 0 (.slice none 0 0)).trans (grown_setCell _ rb 1 (.int .i64 0))).trans (grown_setCell _ rb 2 (.slice none 0 0))).trans (grown_setCell _ rb 3 (.int .i64 0))).trans (grown_setCell _ rb 4 (.int .i64 0)))
    refine bodyPost_ret (results_two rfl _ _ rb 43 _ _ _ rfl rfl hr5 Tryz.underlying43 rfl size43) rfl ?_
    exact ⟨HBL.out.grown hg5 HBL.out.size (fun k hk => by injection hk with hk; have := HRB.out; omega), .inl ⟨k, HX.out, rfl⟩⟩
end Go.Proofs.YtpnnlhegncbfaaaGreatDoor
