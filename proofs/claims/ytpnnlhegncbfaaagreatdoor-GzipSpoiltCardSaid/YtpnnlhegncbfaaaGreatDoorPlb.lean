
/- Contracts of the packer's plain and of plainBlocks, at texts of one block. -/
import Derived.Test.YtpnnlhegncbfaaaGreatDoorStq
import Derived.Lib.MinMax
namespace Go.Proofs.YtpnnlhegncbfaaaGreatDoor
set_option maxRecDepth 20000
open Go.RowKit

/-- A block of kind 0, the last one, as bits. -/
def plainM (l : List UInt8) : List UInt8 := lowB 1 1 ++ lowB 0 2 ++ List.replicate 5 0 ++ lowB l.length 16 ++ lowB (65535 - l.length) 16 ++ bitsL l
def plainT (l : List UInt8) : List UInt8 := [1, UInt8.ofNat (l.length % 256), UInt8.ofNat (l.length / 256), UInt8.ofNat (255 - l.length % 256), UInt8.ofNat (255 - l.length / 256)] ++ l
theorem bin_plainM (l : List UInt8) : Bin (plainM l) := by
  unfold plainM
  exact (((((bin_lowB _ _).append (bin_lowB _ _)).append (bin_zeros _)).append (bin_lowB _ _)).append (bin_lowB _ _)).append (bin_bitsL _)
theorem plain_text (l : List UInt8) (h : l.length ≤ 65535) : textB (plainM l) = plainT l := by
  symm
  refine textB_eq (bin_plainM l) ?_ ?_
  · unfold plainT plainM
    simp [lowB_length, bitsL_length]
    omega
  · unfold plainT plainM
    simp only [numB_append, numB_lowB, numB_zeros, numB_bitsL, lowB_length, List.length_append, List.length_replicate]
    simp only [numL, List.cons_append, List.nil_append, UInt8.toNat_ofNat']
    simp
    omega
theorem St.apart {w w' : World} {gw H : Nat} {v v' : Value} (hS : St w gw v w' v') (hH : H < w.heap.size) (h : ∀ b, v.ownBlock = some b → b ≠ H) : ∀ b, v'.ownBlock = some b → b ≠ H := fun b hb => by
  rcases hS.fresh with e | ⟨k, e, hk⟩
  · exact h b (e ▸ hb)
  · rw [e] at hb; injection hb with hb; omega
set_option maxHeartbeats 4000000 in
set_option maxRecDepth 10000 in
theorem plain_any (gw B : Nat) (A : Option Addr) (n c : Nat) (l : List UInt8) (v : Value) (w : World) (hW : WM w B gw v []) (hB : B ≤ w.heap.size) (hr : Rd w w.heap.size A n (us l)) (hA : A = none → c = 0) (hn : n ≤ 65535) (hap : 0 < n → ∀ g o, A = some ⟨g, o, none⟩ → g < B) (hBg : B ≤ gw) :
    Calls Tryz.prog 57 #[pkV gw none none, .slice A n c, .bool true] w fun e w' => e = .returned (.tuple #[]) ∧ ∃ v', WM w' B gw v' (plainM l) ∧ St w gw v w' v' := by
  have hl : l.length = n := by have := hr.1; rwa [us_length] at this
  have hg1 := World.grownBy_alloc w (.cells #[.pointer (some ⟨gw, 0, none⟩), .pointer none, .pointer none] 100) none
  have HW1 := Lib.hid (hW.grow hg1)
  have HS1 := Lib.hid (St.none (g := gw) (v := v) hg1)
  have HB1 := Lib.hid (Nat.le_trans hB hg1.size)
  have hR : Row (w.alloc (.cells #[.pointer (some ⟨gw, 0, none⟩), .pointer none, .pointer none] 100)) w.heap.size #[.pointer (some ⟨gw, 0, none⟩), .pointer none, .pointer none] 100 := heap_alloc_new w _
  have HR1 := Lib.hid hR
  have HN : RowKit.Hid (w.heap.size ≠ gw ∧ ∀ b, v.ownBlock = some b → b ≠ w.heap.size) := Lib.hid ⟨by have := hW.wr.row.lt; omega, fun b hb => by have := (World.ownsRow.lt hW.wr.own b hb).2; omega⟩
  have HN1 : RowKit.Hid (∀ b, v.ownBlock = some b → b ≠ w.heap.size) := Lib.hid HN.out.2
  have HRB : RowKit.Hid (∀ wx, Below B w wx → Rd wx wx.heap.size A n (us l)) := Lib.hid (fun wx hb => ⟨hr.1, fun h0 => by
    obtain ⟨g, o, ha, hg, hc⟩ := hr.2 h0
    have h3 := hap h0 g o ha
    exact ⟨g, o, ha, by have := hb.size; omega, fun j u hu => (hb.cell (p := ⟨g, o + j, none⟩) h3).trans (hc j u hu)⟩⟩)
  have HBL : RowKit.Hid (∀ wx vx, St w gw v wx vx → Below B w wx) := Lib.hid (fun wx vx hS => hS.below hW.wr hB hBg)
  have HA := Lib.hid hA
  have HLN := Lib.hid hl
  clear hW hB hr hA hap hBg hg1 hR hl
  go_enter Tryz.func57, Tryz.ntmps57
  go_wp2_with fail
  refine (begin_any2 gw B none none true 0 [] v _ HW1.out HB1.out (by decide) (by decide)).mono ?_
  rintro e w2 ⟨rfl, v2, hW2, hS2⟩
  have e2 : (lowB 1 1 ++ lowB 0 2 : List UInt8) = [1, 0, 0] := by decide
  replace hW2 : WM w2 B gw v2 [1, 0, 0] := by rw [← e2]; exact hW2
  have HE2 := Lib.hid e2
  clear e2
  have hr2 := hS2.row HR1.out HN.out.1 HN1.out
  have HN2 := Lib.hid (hS2.apart HR1.out.lt HN1.out)
  have HR2 := Lib.hid hr2
  have a2 : w2.cell? ⟨w.heap.size, 0, none⟩ = some (.pointer (some ⟨gw, 0, none⟩)) := hr2.cell 0
  have b2 : w2.cell? ⟨w.heap.size, 1, none⟩ = some (.pointer none) := hr2.cell 1
  have c2 : w2.cell? ⟨w.heap.size, 2, none⟩ = some (.pointer none) := hr2.cell 2
  have HW2 := Lib.hid hW2
  have HS2 := Lib.hid (HS1.out.trans hS2)
  have HB2 := Lib.hid (Nat.le_trans HB1.out hS2.size)
  clear hW2 hS2 hr2
  go_wp2_with fail
  refine (walign_any B gw _ v2 w2 HW2.out).mono ?_
  rintro e w3 ⟨rfl, hW3, hS3⟩
  have e3 : gap ([1, 0, 0] : List UInt8).length = 5 := by decide
  rw [e3] at hW3 ⊢
  clear a2 b2 c2
  have hr3 := hS3.row HR2.out HN.out.1 HN2.out
  have HN3 := Lib.hid (hS3.apart HR2.out.lt HN2.out)
  have HR3 := Lib.hid hr3
  have a3 : w3.cell? ⟨w.heap.size, 0, none⟩ = some (.pointer (some ⟨gw, 0, none⟩)) := hr3.cell 0
  have b3 : w3.cell? ⟨w.heap.size, 1, none⟩ = some (.pointer none) := hr3.cell 1
  have c3 : w3.cell? ⟨w.heap.size, 2, none⟩ = some (.pointer none) := hr3.cell 2
  have HW3 := Lib.hid hW3
  have HS3 := Lib.hid (HS2.out.trans hS3)
  have HB3 := Lib.hid (Nat.le_trans HB2.out hS3.size)
  clear hW3 hS3 hr3
  have hn16 : n < 2 ^ 16 := by omega
  go_wp2_with fail
  refine (number_any2 gw B none none n 16 _ v2 w3 HW3.out HB3.out (by decide) hn16 (by simp)).mono ?_
  rintro e w4 ⟨rfl, v4, hW4, hS4⟩
  clear a3 b3 c3
  have hr4 := hS4.row HR3.out HN.out.1 HN3.out
  have HN4 := Lib.hid (hS4.apart HR3.out.lt HN3.out)
  have HR4 := Lib.hid hr4
  have a4 : w4.cell? ⟨w.heap.size, 0, none⟩ = some (.pointer (some ⟨gw, 0, none⟩)) := hr4.cell 0
  have b4 : w4.cell? ⟨w.heap.size, 1, none⟩ = some (.pointer none) := hr4.cell 1
  have c4 : w4.cell? ⟨w.heap.size, 2, none⟩ = some (.pointer none) := hr4.cell 2
  have HW4 := Lib.hid hW4
  have HS4 := Lib.hid (HS3.out.trans hS4)
  have HB4 := Lib.hid (Nat.le_trans HB3.out hS4.size)
  clear hW4 hS4 hr4
  have ex := xor_n n hn
  obtain ⟨y, hy⟩ : ∃ y, 65535 - n = y := ⟨_, rfl⟩
  rw [hy] at ex
  have hy16 : y < 2 ^ 16 := by omega
  have HY := Lib.hid hy
  clear hy
  go_wp2_with fail
  refine (number_any2 gw B none none y 16 _ v4 w4 HW4.out HB4.out (by decide) hy16 (by simp [lowB_length])).mono ?_
  rintro e w5 ⟨rfl, v5, hW5, hS5⟩
  clear a4 b4 c4 ex
  have hr5 := hS5.row HR4.out HN.out.1 HN4.out
  have HN5 := Lib.hid (hS5.apart HR4.out.lt HN4.out)
  have HR5 := Lib.hid hr5
  have a5 : w5.cell? ⟨w.heap.size, 0, none⟩ = some (.pointer (some ⟨gw, 0, none⟩)) := hr5.cell 0
  have b5 : w5.cell? ⟨w.heap.size, 1, none⟩ = some (.pointer none) := hr5.cell 1
  have c5 : w5.cell? ⟨w.heap.size, 2, none⟩ = some (.pointer none) := hr5.cell 2
  have HW5 := Lib.hid hW5
  have HS5 := Lib.hid (HS4.out.trans hS5)
  have HB5 := Lib.hid (Nat.le_trans HB4.out hS5.size)
  clear hW5 hS5 hr5
  go_wp2_with fail
  refine (wbytes_any B gw _ v5 A n c l w5 HW5.out HB5.out (HRB.out w5 (HBL.out w5 v5 HS5.out)) HA.out (by simp [lowB_length]) (by simp [lowB_length]) (by omega)).mono ?_
  rintro e w6 ⟨rfl, v6, hW6, hS6⟩
  have HF := Lib.hid (And.intro hW6 (HS5.out.trans hS6))
  rw [show errV 0 = .nilIface from rfl]
  clear hW6 hS6 a5 b5 c5
  go_wp2_with fail
  refine (pass_nil w6).mono ?_
  rintro e wz ⟨rfl, rfl⟩
  go_wp2_with fail
  go_end0
  refine ⟨rfl, v6, ?_, HF.out.2⟩
  have h7 := HF.out.1
  unfold plainM
  rw [HLN.out, HY.out, HE2.out]
  exact h7
/-- What plainBlocks' loop keeps. -/
structure PB (w wr : World) (gw H : Nat) (v : Value) (m : List UInt8) : Prop where
  wm : WM wr gw gw v m
  row : Row wr H #[.pointer (some ⟨gw, 0, none⟩), .pointer none, .pointer none] 100
  ap : H ≠ gw ∧ ∀ b, v.ownBlock = some b → b ≠ H
  below : Below gw w wr
  size : gw ≤ wr.heap.size
set_option maxHeartbeats 4000000 in
set_option maxRecDepth 10000 in
theorem plainBlocks_any (A : Option Addr) (n c : Nat) (l : List UInt8) (w : World) (hr : Rd w w.heap.size A n (us l)) (hA : A = none → c = 0) (hn : n ≤ 65535) (hnc : n ≤ c) :
    Calls Tryz.prog 46 #[.slice A n c] w fun e w' => ∃ v, e = .returned v ∧ Own w' w.heap.size v (plainT l) ∧ Below w.heap.size w w' := by
  have hl : l.length = n := by have := hr.1; rwa [us_length] at this
  have HR := Lib.hid hr
  have HA := Lib.hid hA
  have HL := Lib.hid hl
  have HPT := Lib.hid (plain_text l (by omega))
  have em : min (65535 : Int) (n : Int) = (n : Int) := by omega
  clear hr hA hl
  go_enter Tryz.func46, Tryz.ntmps46
  go_wp2_with fail
  refine (newWriter_any w).mono ?_
  rintro e w1 ⟨rfl, hW1, hg1⟩
  have hW2 := hW1.grow (World.grownBy_alloc w1 (.cells #[.pointer (some ⟨w.heap.size, 0, none⟩), .pointer none, .pointer none] 100) none)
  have hrow := heap_alloc_new w1 (.cells #[.pointer (some ⟨w.heap.size, 0, none⟩), .pointer none, .pointer none] 100)
  have HI0 : RowKit.Hid (PB w (w1.alloc (.cells #[.pointer (some ⟨w.heap.size, 0, none⟩), .pointer none, .pointer none] 100)) w.heap.size w1.heap.size (.slice none 0 0) []) := Lib.hid ⟨hW2, hrow, ⟨by have := hW1.wr.row.lt; omega, fun b hb => by cases hb⟩, (below_make hg1).trans (((Below.refl _ _).alloc (Nat.le_refl _) _).mono hg1.size), by have := hg1.size; simp; omega⟩
  clear hW1 hW2 hg1 hrow
  go_wp2_with fail
  generalize w1.alloc (.cells #[.pointer (some ⟨w.heap.size, 0, none⟩), .pointer none, .pointer none] 100) = w2 at HI0 ⊢
  generalize w1.heap.size = H at HI0 ⊢
  generalize hgw : w.heap.size = gw at HI0 ⊢
  have HGW := Lib.hid hgw
  clear hgw
  go_loopw [0, 4] (fun tx lb wr => (lb = .bool false ∧ tx = .slice A n c ∧ PB w wr gw H (.slice none 0 0) []) ∨ (lb = .bool true ∧ ∃ v, PB w wr gw H v (plainM l))) (fun _ lb _ => match lb with | .bool true => 0 | _ => 1)
  case atStart => exact .inl ⟨rfl, rfl, HI0.out⟩
  case round =>
    clear HI0
    rcases hrel with ⟨rfl, rfl, hI⟩ | ⟨rfl, v, hI⟩
    rotate_left
    · have HI := Lib.hid hI
      have k0 : wr.cell? ⟨H, 0, none⟩ = some (.pointer (some ⟨gw, 0, none⟩)) := hI.row.cell 0
      clear hI
      go_wp2_with fail
      refine (wtext_any gw gw _ v wr HI.out.wm (by unfold plainM; simp [lowB_length, bitsL_length, HL.out]; omega)).mono ?_
      rintro e w3 ⟨u, rfl, ho, hg⟩
      rw [HPT.out] at ho
      have HF : RowKit.Hid (Own w3 w.heap.size u (plainT l) ∧ Below w.heap.size w w3) := Lib.hid ⟨own_mono ho (by rw [HGW.out]; exact HI.out.size), by rw [HGW.out]; exact HI.out.below.trans ((below_make hg).mono HI.out.size)⟩
      clear ho hg k0
      go_wp2_with fail
      go_ret
      exact ⟨_, rfl, HF.out.1, HF.out.2⟩
    · have HI := Lib.hid hI
      have k0 : wr.drew.cell? ⟨H, 0, none⟩ = some (.pointer (some ⟨gw, 0, none⟩)) := hI.row.cell 0
      have k1 : wr.drew.cell? ⟨H, 1, none⟩ = some (.pointer none) := hI.row.cell 1
      have k2 : wr.drew.cell? ⟨H, 2, none⟩ = some (.pointer none) := hI.row.cell 2
      clear hI
      have HPL := Lib.hid (plain_any gw gw A n c l (.slice none 0 0) wr.drew (HI.out.wm.grow (grown_drewN wr 1)) HI.out.size ⟨HR.out.1, fun h0 => by
        obtain ⟨g, o, ha, hg, hc⟩ := HR.out.2 h0
        have hg2 : g < gw := by rw [← HGW.out]; exact hg
        refine ⟨g, o, ha, Nat.lt_of_lt_of_le hg2 HI.out.size, fun j u hu => ?_⟩
        exact (HI.out.below.cell (p := ⟨g, o + j, none⟩) hg2).trans (hc j u hu)⟩ HA.out hn (fun h0 g o ha => by
          obtain ⟨g', o', ha', hg, _⟩ := HR.out.2 h0
          rw [ha] at ha'
          injection ha' with ha'
          injection ha' with e1 e2
          rw [e1, ← HGW.out]; exact hg) (Nat.le_refl _))
      go_wp2_with fail
      refine wp_region_any (by kernel_rfl) ?_
      change wpAny _ _ _ _ _ _ _ (World.drew _)
      have HRW : RowKit.Hid (Row wr.drew H #[.pointer (some ⟨gw, 0, none⟩), .pointer none, .pointer none] 100) := Lib.hid HI.out.row
      have HWD : RowKit.Hid (WM wr.drew gw gw (.slice none 0 0) []) := Lib.hid (HI.out.wm.grow (grown_drewN wr 1))
      have HBD : RowKit.Hid (Below gw w wr.drew) := Lib.hid (HI.out.below.trans ((below_make (grown_drewN wr 1)).mono HI.out.size))
      have HSD : RowKit.Hid (gw ≤ wr.drew.heap.size) := Lib.hid HI.out.size
      generalize wr.drew = w4 at HPL HRW HWD HBD HSD k0 k1 k2 ⊢
      refine wpAny_take (i := 1) (v := ?_) rfl (by kernel_rfl) (by kernel_rfl) (by kernel_rfl) (fun _ _ _ h => h) (Or.inl ⟨by rfl, ?_⟩) ?_
      rotate_left
      · intro w
        go_simp
        try with_reducible rfl
      refine wpAny_take (i := 2) (v := ?_) rfl (by kernel_rfl) (by kernel_rfl) (by kernel_rfl) (fun _ _ _ h => h) (Or.inl ⟨by rfl, ?_⟩) ?_
      rotate_left
      · intro w
        go_simp
        try with_reducible rfl
      refine wpAny_take (i := 3) (v := ?_) rfl (by kernel_rfl) (by kernel_rfl) (by kernel_rfl) (fun _ _ _ h => h) (Or.inl ⟨by rfl, ?_⟩) ?_
      rotate_left
      · intro w
        go_simp
        try with_reducible rfl
      refine wpAny_take (i := 4) (v := ?_) rfl (by kernel_rfl) (by kernel_rfl) (by kernel_rfl) (fun _ _ _ h => h) (Or.inl ⟨by rfl, ?_⟩) ?_
      rotate_left
      · intro w
        go_simp
        try with_reducible rfl
      refine wpAny_ready (rs := [0]) (by kernel_rfl) (by simp) ?_
      refine AllReady.cons rfl (fun K hK => ?_) AllReady.nil
      go_simp
      refine hK _ _ ?_
      clear hK K
      refine wpAny_ready (rs := [5]) (by kernel_rfl) (by simp) ?_
      refine AllReady.cons rfl (fun K hK => ?_) AllReady.nil
      go_simp
      go_wp2_with fail
      refine HPL.out.mono ?_
      rintro e w5 ⟨rfl, v5, hW5, hS5⟩
      have HI5 : RowKit.Hid (PB w w5 gw H v5 (plainM l)) := Lib.hid ⟨hW5, hS5.row HRW.out HI.out.ap.1 HI.out.ap.2, ⟨HI.out.ap.1, hS5.apart HRW.out.lt HI.out.ap.2⟩, HBD.out.trans (hS5.below HWD.out.wr HSD.out (Nat.le_refl _)), Nat.le_trans HSD.out hS5.size⟩
      clear hW5 hS5 k0 k1 k2 HPL
      go_simp
      refine hK _ _ ?_
      clear hK K
      refine wpAny_done (by kernel_rfl) ?_ _
      by_cases hcn : c = n
      · subst hcn
        go_wp2_with fail
        go_roundw
        case rel => exact .inr ⟨rfl, v5, HI5.out⟩
        case measure => decide
      · have hcn2 : n < c := by omega
        go_wp2_with fail
        go_roundw
        case rel => exact .inr ⟨rfl, v5, HI5.out⟩
        case measure => decide
end Go.Proofs.YtpnnlhegncbfaaaGreatDoor
