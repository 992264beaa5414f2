
/- Contract of deflate's codeOf at the fixed lengths. -/

/- Contracts of the packer's plain and of plainBlocks, at texts of one block. -/

/- Contract of tokenBlock. -/
import Derived.Test.YtpnnlhegncbfaaaDoorGroupU
import Derived.Test.YtpnnlhegncbfaaaDoorGroupG
import Derived.Test.YtpnnlhegncbfaaaDoorGroupI
import Derived.Lib.MinMax
import Derived.Test.YtpnnlhegncbfaaaDoorGroupS
namespace Go.Proofs.YtpnnlhegncbfaaaDoor
set_option maxRecDepth 20000
open Go.RowKit

def ints64 (ls : List Nat) : List Int := ls.map Int.ofNat
theorem nats_ints (ls : List Nat) : nats (ints64 ls) = ls := by
  unfold nats ints64
  rw [List.map_map]
  exact (List.map_congr_left (g := id) (fun x _ => rfl)).trans (List.map_id ls)
theorem ints_length (ls : List Nat) : (ints64 ls).length = ls.length := by simp [ints64]
theorem newA : newE (ints64 fixA) false = 0 := by decide +kernel
theorem newB : newE (ints64 fixB) false = 0 := by decide +kernel
theorem is_fixA : is (ints64 fixA) = (ia fixL 288).toList := by kernel_rfl
theorem is_fixB : (ia (fun _ => 5) 30).toList = is (List.replicate 30 5) := by kernel_rfl
theorem fixB_ints : ints64 fixB = List.replicate 30 5 ++ [5, 5] := by kernel_rfl
theorem HL.wide {w : World} {lo lo' B B' g : Nat} {l : List Nat} (h : HL w lo B g l) (h1 : lo' ≤ lo) (h2 : B ≤ B') : HL w lo' B' g l :=
  fun w' ha => (h w' (fun k k1 k2 => ha k (Nat.le_trans h1 k1) (Nat.lt_of_lt_of_le k2 h2))).more h2
set_option maxHeartbeats 1000000 in
set_option maxRecDepth 10000 in
theorem codeOf_any (A : Option Addr) (n c : Nat) (ls : List Nat) (w : World) (hr : Rd w w.heap.size A n (is (ints64 ls))) (hA : A = none → c = 0) (hn : ls.length ≤ 320) (h0 : newE (ints64 ls) false = 0) :
    Calls Tryd.prog 50 #[.slice A n c] w fun e w' => Below w.heap.size w w' ∧ ∃ a, e = .returned (.pointer (some ⟨a, 0, none⟩)) ∧ HL w' w.heap.size w'.heap.size a ls := by
  have hn2 : n = ls.length := by have := hr.1; rw [is_length, ints_length] at this; exact this.symm
  have HC := Lib.hid (new_full A n c (ints64 ls) false w hr hA (by omega))
  have H0 := Lib.hid h0
  clear hr hA hn2 h0
  go_enter Tryd.func50, Tryd.ntmps50
  go_wp2_with fail
  refine HC.out.mono ?_
  rintro e w1 ⟨⟨hb, _, h2⟩, h3⟩
  obtain ⟨a, rfl, _⟩ := h2 H0.out
  have HF := Lib.hid (h3 a rfl H0.out)
  rw [nats_ints] at HF
  have HB := Lib.hid hb
  clear h2 h3 hb HC
  go_wp2_with fail
  refine (pass_nil w1).mono ?_
  rintro e w2 ⟨rfl, rfl⟩
  go_wp2_with fail
  go_ret
  exact ⟨HB.out, a, rfl, HF.out⟩
end Go.Proofs.YtpnnlhegncbfaaaDoor
namespace Go.Proofs.YtpnnlhegncbfaaaDoor
set_option maxRecDepth 20000
open Go.RowKit

/-- A block of kind 0, the last one, as bits. -/
def plainM (l : List UInt8) : List UInt8 := lowB 1 1 ++ lowB 0 2 ++ List.replicate 5 0 ++ lowB l.length 16 ++ lowB (65535 - l.length) 16 ++ bitsL l
def plainT (l : List UInt8) : List UInt8 := [1, UInt8.ofNat (l.length % 256), UInt8.ofNat (l.length / 256), UInt8.ofNat (255 - l.length % 256), UInt8.ofNat (255 - l.length / 256)] ++ l
theorem bin_plainM (l : List UInt8) : Bin (plainM l) := by
  unfold plainM
  exact (((((bin_lowB _ _).append (bin_lowB _ _)).append (bin_zeros _)).append (bin_lowB _ _)).append (bin_lowB _ _)).append (bin_bitsL _)
theorem plain_text (l : List UInt8) (h : l.length ≤ 65535) : textB (plainM l) = plainT l := by
  symm
  refine textB_eq (bin_plainM l) ?_ ?_
  · unfold plainT plainM
    simp [lowB_length, bitsL_length]
    omega
  · unfold plainT plainM
    simp only [numB_append, numB_lowB, numB_zeros, numB_bitsL, lowB_length, List.length_append, List.length_replicate]
    simp only [numL, List.cons_append, List.nil_append, UInt8.toNat_ofNat']
    simp
    omega
theorem St.apart {w w' : World} {gw H : Nat} {v v' : Value} (hS : St w gw v w' v') (hH : H < w.heap.size) (h : ∀ b, v.ownBlock = some b → b ≠ H) : ∀ b, v'.ownBlock = some b → b ≠ H := fun b hb => by
  rcases hS.fresh with e | ⟨k, e, hk⟩
  · exact h b (e ▸ hb)
  · rw [e] at hb; injection hb with hb; omega
set_option maxHeartbeats 4000000 in
set_option maxRecDepth 10000 in
theorem plain_any (gw B : Nat) (A : Option Addr) (n c : Nat) (l : List UInt8) (v : Value) (w : World) (hW : WM w B gw v []) (hB : B ≤ w.heap.size) (hr : Rd w w.heap.size A n (us l)) (hA : A = none → c = 0) (hn : n ≤ 65535) (hap : 0 < n → ∀ g o, A = some ⟨g, o, none⟩ → g < B) (hBg : B ≤ gw) :
    Calls Tryd.prog 47 #[pkV gw none none, .slice A n c, .bool true] w fun e w' => e = .returned (.tuple #[]) ∧ ∃ v', WM w' B gw v' (plainM l) ∧ St w gw v w' v' := by
  have hl : l.length = n := by have := hr.1; rwa [us_length] at this
  have hg1 := World.grownBy_alloc w (.cells #[.pointer (some ⟨gw, 0, none⟩), .pointer none, .pointer none] 84) none
  have HW1 := Lib.hid (hW.grow hg1)
  have HS1 := Lib.hid (St.none (g := gw) (v := v) hg1)
  have HB1 := Lib.hid (Nat.le_trans hB hg1.size)
  have hR : Row (w.alloc (.cells #[.pointer (some ⟨gw, 0, none⟩), .pointer none, .pointer none] 84)) w.heap.size #[.pointer (some ⟨gw, 0, none⟩), .pointer none, .pointer none] 84 := heap_alloc_new w _
  have HR1 := Lib.hid hR
  have HN : RowKit.Hid (w.heap.size ≠ gw ∧ ∀ b, v.ownBlock = some b → b ≠ w.heap.size) := Lib.hid ⟨by have := hW.wr.row.lt; omega, fun b hb => by have := (World.ownsRow.lt hW.wr.own b hb).2; omega⟩
  have HN1 : RowKit.Hid (∀ b, v.ownBlock = some b → b ≠ w.heap.size) := Lib.hid HN.out.2
  have HRB : RowKit.Hid (∀ wx, Below B w wx → Rd wx wx.heap.size A n (us l)) := Lib.hid (fun wx hb => ⟨hr.1, fun h0 => by
    obtain ⟨g, o, ha, hg, hc⟩ := hr.2 h0
    have h3 := hap h0 g o ha
    exact ⟨g, o, ha, by have := hb.size; omega, fun j u hu => (hb.cell (p := ⟨g, o + j, none⟩) h3).trans (hc j u hu)⟩⟩)
  have HBL : RowKit.Hid (∀ wx vx, St w gw v wx vx → Below B w wx) := Lib.hid (fun wx vx hS => hS.below hW.wr hB hBg)
  have HA := Lib.hid hA
  have HLN := Lib.hid hl
  clear hW hB hr hA hap hBg hg1 hR hl
  go_enter Tryd.func47, Tryd.ntmps47
  go_wp2_with fail
  refine (begin_any2 gw B none none true 0 [] v _ HW1.out HB1.out (by decide) (by decide)).mono ?_
  rintro e w2 ⟨rfl, v2, hW2, hS2⟩
  have e2 : (lowB 1 1 ++ lowB 0 2 : List UInt8) = [1, 0, 0] := by decide
  replace hW2 : WM w2 B gw v2 [1, 0, 0] := by rw [← e2]; exact hW2
  have HE2 := Lib.hid e2
  clear e2
  have hr2 := hS2.row HR1.out HN.out.1 HN1.out
  have HN2 := Lib.hid (hS2.apart HR1.out.lt HN1.out)
  have HR2 := Lib.hid hr2
  have a2 : w2.cell? ⟨w.heap.size, 0, none⟩ = some (.pointer (some ⟨gw, 0, none⟩)) := hr2.cell 0
  have b2 : w2.cell? ⟨w.heap.size, 1, none⟩ = some (.pointer none) := hr2.cell 1
  have c2 : w2.cell? ⟨w.heap.size, 2, none⟩ = some (.pointer none) := hr2.cell 2
  have HW2 := Lib.hid hW2
  have HS2 := Lib.hid (HS1.out.trans hS2)
  have HB2 := Lib.hid (Nat.le_trans HB1.out hS2.size)
  clear hW2 hS2 hr2
  go_wp2_with fail
  refine (walign_any B gw _ v2 w2 HW2.out).mono ?_
  rintro e w3 ⟨rfl, hW3, hS3⟩
  have e3 : gap ([1, 0, 0] : List UInt8).length = 5 := by decide
  rw [e3] at hW3 ⊢
  clear a2 b2 c2
  have hr3 := hS3.row HR2.out HN.out.1 HN2.out
  have HN3 := Lib.hid (hS3.apart HR2.out.lt HN2.out)
  have HR3 := Lib.hid hr3
  have a3 : w3.cell? ⟨w.heap.size, 0, none⟩ = some (.pointer (some ⟨gw, 0, none⟩)) := hr3.cell 0
  have b3 : w3.cell? ⟨w.heap.size, 1, none⟩ = some (.pointer none) := hr3.cell 1
  have c3 : w3.cell? ⟨w.heap.size, 2, none⟩ = some (.pointer none) := hr3.cell 2
  have HW3 := Lib.hid hW3
  have HS3 := Lib.hid (HS2.out.trans hS3)
  have HB3 := Lib.hid (Nat.le_trans HB2.out hS3.size)
  clear hW3 hS3 hr3
  have hn16 : n < 2 ^ 16 := by omega
  go_wp2_with fail
  refine (number_any2 gw B none none n 16 _ v2 w3 HW3.out HB3.out (by decide) hn16 (by simp)).mono ?_
  rintro e w4 ⟨rfl, v4, hW4, hS4⟩
  clear a3 b3 c3
  have hr4 := hS4.row HR3.out HN.out.1 HN3.out
  have HN4 := Lib.hid (hS4.apart HR3.out.lt HN3.out)
  have HR4 := Lib.hid hr4
  have a4 : w4.cell? ⟨w.heap.size, 0, none⟩ = some (.pointer (some ⟨gw, 0, none⟩)) := hr4.cell 0
  have b4 : w4.cell? ⟨w.heap.size, 1, none⟩ = some (.pointer none) := hr4.cell 1
  have c4 : w4.cell? ⟨w.heap.size, 2, none⟩ = some (.pointer none) := hr4.cell 2
  have HW4 := Lib.hid hW4
  have HS4 := Lib.hid (HS3.out.trans hS4)
  have HB4 := Lib.hid (Nat.le_trans HB3.out hS4.size)
  clear hW4 hS4 hr4
  have ex := xor_n n hn
  obtain ⟨y, hy⟩ : ∃ y, 65535 - n = y := ⟨_, rfl⟩
  rw [hy] at ex
  have hy16 : y < 2 ^ 16 := by omega
  have HY := Lib.hid hy
  clear hy
  go_wp2_with fail
  refine (number_any2 gw B none none y 16 _ v4 w4 HW4.out HB4.out (by decide) hy16 (by simp [lowB_length])).mono ?_
  rintro e w5 ⟨rfl, v5, hW5, hS5⟩
  clear a4 b4 c4 ex
  have hr5 := hS5.row HR4.out HN.out.1 HN4.out
  have HN5 := Lib.hid (hS5.apart HR4.out.lt HN4.out)
  have HR5 := Lib.hid hr5
  have a5 : w5.cell? ⟨w.heap.size, 0, none⟩ = some (.pointer (some ⟨gw, 0, none⟩)) := hr5.cell 0
  have b5 : w5.cell? ⟨w.heap.size, 1, none⟩ = some (.pointer none) := hr5.cell 1
  have c5 : w5.cell? ⟨w.heap.size, 2, none⟩ = some (.pointer none) := hr5.cell 2
  have HW5 := Lib.hid hW5
  have HS5 := Lib.hid (HS4.out.trans hS5)
  have HB5 := Lib.hid (Nat.le_trans HB4.out hS5.size)
  clear hW5 hS5 hr5
  go_wp2_with fail
  refine (wbytes_any B gw _ v5 A n c l w5 HW5.out HB5.out (HRB.out w5 (HBL.out w5 v5 HS5.out)) HA.out (by simp [lowB_length]) (by simp [lowB_length]) (by omega)).mono ?_
  rintro e w6 ⟨rfl, v6, hW6, hS6⟩
  have HF := Lib.hid (And.intro hW6 (HS5.out.trans hS6))
  rw [show errV 0 = .nilIface from rfl]
  clear hW6 hS6 a5 b5 c5
  go_wp2_with fail
  refine (pass_nil w6).mono ?_
  rintro e wz ⟨rfl, rfl⟩
  go_wp2_with fail
  go_end0
  refine ⟨rfl, v6, ?_, HF.out.2⟩
  have h7 := HF.out.1
  unfold plainM
  rw [HLN.out, HY.out, HE2.out]
  exact h7
/-- What plainBlocks' loop keeps. -/
structure PB (w wr : World) (gw H : Nat) (v : Value) (m : List UInt8) : Prop where
  wm : WM wr gw gw v m
  row : Row wr H #[.pointer (some ⟨gw, 0, none⟩), .pointer none, .pointer none] 84
  ap : H ≠ gw ∧ ∀ b, v.ownBlock = some b → b ≠ H
  below : Below gw w wr
  size : gw ≤ wr.heap.size
set_option maxHeartbeats 4000000 in
set_option maxRecDepth 10000 in
theorem plainBlocks_any (A : Option Addr) (n c : Nat) (l : List UInt8) (w : World) (hr : Rd w w.heap.size A n (us l)) (hA : A = none → c = 0) (hn : n ≤ 65535) (hnc : n ≤ c) :
    Calls Tryd.prog 36 #[.slice A n c] w fun e w' => ∃ v, e = .returned v ∧ Own w' w.heap.size v (plainT l) ∧ Below w.heap.size w w' := by
  have hl : l.length = n := by have := hr.1; rwa [us_length] at this
  have HR := Lib.hid hr
  have HA := Lib.hid hA
  have HL := Lib.hid hl
  have HPT := Lib.hid (plain_text l (by omega))
  have em : min (65535 : Int) (n : Int) = (n : Int) := by omega
  clear hr hA hl
  go_enter Tryd.func36, Tryd.ntmps36
  go_wp2_with fail
  refine (newWriter_any w).mono ?_
  rintro e w1 ⟨rfl, hW1, hg1⟩
  have hW2 := hW1.grow (World.grownBy_alloc w1 (.cells #[.pointer (some ⟨w.heap.size, 0, none⟩), .pointer none, .pointer none] 84) none)
  have hrow := heap_alloc_new w1 (.cells #[.pointer (some ⟨w.heap.size, 0, none⟩), .pointer none, .pointer none] 84)
  have HI0 : RowKit.Hid (PB w (w1.alloc (.cells #[.pointer (some ⟨w.heap.size, 0, none⟩), .pointer none, .pointer none] 84)) w.heap.size w1.heap.size (.slice none 0 0) []) := Lib.hid ⟨hW2, hrow, ⟨by have := hW1.wr.row.lt; omega, fun b hb => by cases hb⟩, (below_make hg1).trans (((Below.refl _ _).alloc (Nat.le_refl _) _).mono hg1.size), by have := hg1.size; simp; omega⟩
  clear hW1 hW2 hg1 hrow
  go_wp2_with fail
  generalize w1.alloc (.cells #[.pointer (some ⟨w.heap.size, 0, none⟩), .pointer none, .pointer none] 84) = w2 at HI0 ⊢
  generalize w1.heap.size = H at HI0 ⊢
  generalize hgw : w.heap.size = gw at HI0 ⊢
  have HGW := Lib.hid hgw
  clear hgw
  go_loopw [0, 4] (fun tx lb wr => (lb = .bool false ∧ tx = .slice A n c ∧ PB w wr gw H (.slice none 0 0) []) ∨ (lb = .bool true ∧ ∃ v, PB w wr gw H v (plainM l))) (fun _ lb _ => match lb with | .bool true => 0 | _ => 1)
  case atStart => exact .inl ⟨rfl, rfl, HI0.out⟩
  case round =>
    clear HI0
    rcases hrel with ⟨rfl, rfl, hI⟩ | ⟨rfl, v, hI⟩
    rotate_left
    · have HI := Lib.hid hI
      have k0 : wr.cell? ⟨H, 0, none⟩ = some (.pointer (some ⟨gw, 0, none⟩)) := hI.row.cell 0
      clear hI
      go_wp2_with fail
      refine (wtext_any gw gw _ v wr HI.out.wm (by unfold plainM; simp [lowB_length, bitsL_length, HL.out]; omega)).mono ?_
      rintro e w3 ⟨u, rfl, ho, hg⟩
      rw [HPT.out] at ho
      have HF : RowKit.Hid (Own w3 w.heap.size u (plainT l) ∧ Below w.heap.size w w3) := Lib.hid ⟨own_mono ho (by rw [HGW.out]; exact HI.out.size), by rw [HGW.out]; exact HI.out.below.trans ((below_make hg).mono HI.out.size)⟩
      clear ho hg k0
      go_wp2_with fail
      go_ret
      exact ⟨_, rfl, HF.out.1, HF.out.2⟩
    · have HI := Lib.hid hI
      have k0 : wr.drew.cell? ⟨H, 0, none⟩ = some (.pointer (some ⟨gw, 0, none⟩)) := hI.row.cell 0
      have k1 : wr.drew.cell? ⟨H, 1, none⟩ = some (.pointer none) := hI.row.cell 1
      have k2 : wr.drew.cell? ⟨H, 2, none⟩ = some (.pointer none) := hI.row.cell 2
      clear hI
      have HPL := Lib.hid (plain_any gw gw A n c l (.slice none 0 0) wr.drew (HI.out.wm.grow (grown_drewN wr 1)) HI.out.size ⟨HR.out.1, fun h0 => by
        obtain ⟨g, o, ha, hg, hc⟩ := HR.out.2 h0
        have hg2 : g < gw := by rw [← HGW.out]; exact hg
        refine ⟨g, o, ha, Nat.lt_of_lt_of_le hg2 HI.out.size, fun j u hu => ?_⟩
        exact (HI.out.below.cell (p := ⟨g, o + j, none⟩) hg2).trans (hc j u hu)⟩ HA.out hn (fun h0 g o ha => by
          obtain ⟨g', o', ha', hg, _⟩ := HR.out.2 h0
          rw [ha] at ha'
          injection ha' with ha'
          injection ha' with e1 e2
          rw [e1, ← HGW.out]; exact hg) (Nat.le_refl _))
      go_wp2_with fail
      refine wp_region_any (by kernel_rfl) ?_
      change wpAny _ _ _ _ _ _ _ (World.drew _)
      have HRW : RowKit.Hid (Row wr.drew H #[.pointer (some ⟨gw, 0, none⟩), .pointer none, .pointer none] 84) := Lib.hid HI.out.row
      have HWD : RowKit.Hid (WM wr.drew gw gw (.slice none 0 0) []) := Lib.hid (HI.out.wm.grow (grown_drewN wr 1))
      have HBD : RowKit.Hid (Below gw w wr.drew) := Lib.hid (HI.out.below.trans ((below_make (grown_drewN wr 1)).mono HI.out.size))
      have HSD : RowKit.Hid (gw ≤ wr.drew.heap.size) := Lib.hid HI.out.size
      generalize wr.drew = w4 at HPL HRW HWD HBD HSD k0 k1 k2 ⊢
      refine wpAny_take (i := 1) (v := ?_) rfl (by kernel_rfl) (by kernel_rfl) (by kernel_rfl) (fun _ _ _ h => h) (Or.inl ⟨by rfl, ?_⟩) ?_
      rotate_left
      · intro w
        go_simp
        try with_reducible rfl
      refine wpAny_take (i := 2) (v := ?_) rfl (by kernel_rfl) (by kernel_rfl) (by kernel_rfl) (fun _ _ _ h => h) (Or.inl ⟨by rfl, ?_⟩) ?_
      rotate_left
      · intro w
        go_simp
        try with_reducible rfl
      refine wpAny_take (i := 3) (v := ?_) rfl (by kernel_rfl) (by kernel_rfl) (by kernel_rfl) (fun _ _ _ h => h) (Or.inl ⟨by rfl, ?_⟩) ?_
      rotate_left
      · intro w
        go_simp
        try with_reducible rfl
      refine wpAny_take (i := 4) (v := ?_) rfl (by kernel_rfl) (by kernel_rfl) (by kernel_rfl) (fun _ _ _ h => h) (Or.inl ⟨by rfl, ?_⟩) ?_
      rotate_left
      · intro w
        go_simp
        try with_reducible rfl
      refine wpAny_ready (rs := [0]) (by kernel_rfl) (by simp) ?_
      refine AllReady.cons rfl (fun K hK => ?_) AllReady.nil
      go_simp
      refine hK _ _ ?_
      clear hK K
      refine wpAny_ready (rs := [5]) (by kernel_rfl) (by simp) ?_
      refine AllReady.cons rfl (fun K hK => ?_) AllReady.nil
      go_simp
      go_wp2_with fail
      refine HPL.out.mono ?_
      rintro e w5 ⟨rfl, v5, hW5, hS5⟩
      have HI5 : RowKit.Hid (PB w w5 gw H v5 (plainM l)) := Lib.hid ⟨hW5, hS5.row HRW.out HI.out.ap.1 HI.out.ap.2, ⟨HI.out.ap.1, hS5.apart HRW.out.lt HI.out.ap.2⟩, HBD.out.trans (hS5.below HWD.out.wr HSD.out (Nat.le_refl _)), Nat.le_trans HSD.out hS5.size⟩
      clear hW5 hS5 k0 k1 k2 HPL
      go_simp
      refine hK _ _ ?_
      clear hK K
      refine wpAny_done (by kernel_rfl) ?_ _
      by_cases hcn : c = n
      · subst hcn
        go_wp2_with fail
        go_roundw
        case rel => exact .inr ⟨rfl, v5, HI5.out⟩
        case measure => decide
      · have hcn2 : n < c := by omega
        go_wp2_with fail
        go_roundw
        case rel => exact .inr ⟨rfl, v5, HI5.out⟩
        case measure => decide
end Go.Proofs.YtpnnlhegncbfaaaDoor
namespace Go.Proofs.YtpnnlhegncbfaaaDoor
set_option maxRecDepth 20000
open Go.RowKit

/-- A text as one block of kind 1, as bits. -/
def fixedM (l : List UInt8) : List UInt8 := [1, 1, 0] ++ (toksT l).flatMap tokB ++ bitsO fixA (256 : Nat)
def goodT (t : Tk) : Prop := t.l = 0 ∨ (3 ≤ t.l ∧ t.l ≤ 258 ∧ 1 ≤ t.d ∧ t.d ≤ 32768)
theorem look_three (t : List UInt8) (at_ most : Nat) : ∀ (p k : Nat) (b : Nat × Nat), (b.1 = 0 ∨ 3 ≤ b.1) → ((lookR t at_ most p k b).1 = 0 ∨ 3 ≤ (lookR t at_ most p k b).1)
  | 0, _, _, h => h
  | p + 1, k, b, h => by
    unfold lookR
    split
    · split
      · exact look_three t at_ most p k b h
      · rename_i h3
        refine look_three t at_ most p (k + 1) _ ?_
        split
        · exact .inr (by show 3 ≤ mlen t p at_ most; omega)
        · exact h
    · exact h
theorem tok_good (l : List UInt8) (q : Nat) : goodT (tokAt l q) := by
  unfold goodT tokAt tokF
  have h1 := best_good l q
  have h2 := look_three l q (mostF l.length q) q 0 (0, 0) (.inl rfl)
  rw [← best_look] at h2
  have h3 : mostF l.length q ≤ 258 := by unfold mostF; omega
  split
  · exact .inl rfl
  · right
    simp only
    omega
theorem toks_good (l : List UInt8) : ∀ F q, ∀ t ∈ toksF l F q, goodT t
  | 0, _, t, h => by cases h
  | F + 1, q, t, h => by
    unfold toksF at h
    split at h
    · rcases List.mem_cons.1 h with rfl | h
      · exact tok_good l q
      · exact toks_good l F _ t h
    · cases h
theorem toks_len (l : List UInt8) : ∀ F q, (toksF l F q).length ≤ F
  | 0, _ => Nat.le_refl _
  | F + 1, q => by
    unfold toksF
    split
    · have := toks_len l F (q + stepT l q); simp; omega
    · simp
theorem flat_length (D : List Tk) : (D.flatMap tokB).length ≤ 80 * D.length := by
  induction D with
  | nil => simp
  | cons t D ih => have := tokB_length t; simp only [List.flatMap_cons, List.length_append, List.length_cons]; omega
theorem OwnT.place {e : TypeId} {w : World} {B : Nat} {A : Option Addr} {n c : Nat} {l : List Tk} (h : OwnT e w B (.slice A n c) l) : ∀ g o, A = some ⟨g, o, none⟩ → B ≤ g ∧ g < w.heap.size := fun g o hA => by
  rcases h.2 with ⟨hv, _⟩ | ⟨g', cap, cur, hv, hb, hg, _⟩
  · injection hv with h1; rw [hA] at h1; cases h1
  · injection hv with h1
    rw [hA] at h1
    injection h1 with h1
    injection h1 with h1
    subst h1
    exact ⟨hb, (Array.getElem?_eq_some_iff.1 hg).1⟩
/-- What tokenBlock's loop keeps. -/
structure TB (w wr : World) (gw H a b : Nat) (A : Option Addr) (m : Nat) (D : List Tk) (v : Value) (M : List UInt8) : Prop where
  ps : PS wr gw gw v M (gw + 1) (H + 1) a b
  row : Row wr H #[.pointer (some ⟨gw, 0, none⟩), .pointer (some ⟨a, 0, none⟩), .pointer (some ⟨b, 0, none⟩)] 84
  toks : RdT wr wr.heap.size A m D
  ap : ∀ g o, A = some ⟨g, o, none⟩ → g ≠ gw ∧ g < wr.heap.size ∧ ∀ k, v.ownBlock = some k → k ≠ g
  below : Below gw w wr
theorem TB.step {w wr w' : World} {gw H a b : Nat} {A : Option Addr} {m : Nat} {D : List Tk} {v v' : Value} {M M' : List UInt8} (h : TB w wr gw H a b A m D v M) (hP : PS w' gw gw v' M' (gw + 1) (H + 1) a b) (hS : St wr gw v w' v') :
    TB w w' gw H a b A m D v' M' := by
  have hHg : H ≠ gw := fun e => by
    have h1 := h.row
    have h2 := h.ps.wm.wr.row
    subst e
    have := (h1.inj h2).2
    exact absurd this (by decide)
  refine ⟨hP, hS.row h.row hHg (fun k hk => by have := h.ps.own k hk; omega), ⟨h.toks.1, fun h0 => ?_⟩, fun g o hA => ?_, h.below.trans (hS.below h.ps.wm.wr h.ps.hB (Nat.le_refl _))⟩
  · obtain ⟨g, o, hA, hg, hc⟩ := h.toks.2 h0
    obtain ⟨h1, h2, h3⟩ := h.ap g o hA
    exact ⟨g, o, hA, Nat.lt_of_lt_of_le hg hS.size, fun i x hx j u hu => (World.cell?_of_block (w := wr) (a := ⟨g, o + (i * 3 + j), none⟩) (hS.block g h2 h1 (fun e => h3 g e rfl))).trans (hc i x hx j u hu)⟩
  · obtain ⟨h1, h2, h3⟩ := h.ap g o hA
    exact ⟨h1, Nat.lt_of_lt_of_le h2 hS.size, hS.apart h2 h3⟩
set_option maxHeartbeats 4000000 in
set_option maxRecDepth 10000 in
theorem tokenBlock_any (A : Option Addr) (n c : Nat) (l : List UInt8) (w : World) (hr : Rd w w.heap.size A n (us l)) (hn : n ≤ 30000) :
    Calls Tryd.prog 37 #[.slice A n c] w fun e w' => ∃ v, e = .returned v ∧ Own w' w.heap.size v (textB (fixedM l)) ∧ Below w.heap.size w w' := by
  have HL : RowKit.Hid (l.length = n) := Lib.hid (by have := hr.1; rwa [us_length] at this)
  obtain ⟨X, HX⟩ : ∃ X, RowKit.Hid (fixedM l = X) := ⟨_, Lib.hid rfl⟩
  rw [HX.out]
  have HR := Lib.hid hr
  clear hr
  go_enter Tryd.func37, Tryd.ntmps37
  go_wp2_with fail
  refine (fixed_any w).mono ?_
  rintro e w2 ⟨p, q, rfl, hp, hq, hb2, hp2, hq2, hpq⟩
  have HO2 := Lib.hid (hq.ownI (B := w.heap.size) (n := 30) is_fixB (by decide) (by decide) hq2)
  have HP2 := Lib.hid hp
  have HB2 := Lib.hid hb2
  have HQ2 : RowKit.Hid (w.heap.size ≤ w2.heap.size ∧ w.heap.size ≤ q ∧ p ≠ q) := Lib.hid ⟨hb2.size, hq2, hpq⟩
  clear hp hq hb2 hp2 hq2 hpq
  go_wp2_with (at_builtin; refine pushI w2 rfl (.tmp 12) (.tmp 13) rfl w.heap.size _ (List.replicate 30 5) [5, 5] _ 2 rfl rfl HO2.out rfl rfl HQ2.out.1 (by decide) ?_)
  intro v3 w3 ho3 hg3 hf3
  have hq3 : ∀ b, (Value.slice (some ⟨q, 0, none⟩) 30 30).ownBlock = some b → q = b := fun b hb => by injection hb
  have hp3 := HP2.out.grown hg3 (fun e => HQ2.out.2.2 (hq3 _ e.symm).symm)
  have HB3 := Lib.hid (HB2.out.grown hg3 HQ2.out.1 (fun b hb => by have := hq3 b hb; have := HQ2.out.2.1; omega))
  obtain ⟨A3, c3, hv3⟩ := ho3.slice
  have hv3 : v3 = .slice A3 32 c3 := hv3
  subst hv3
  have HK3 : RowKit.Hid (A3 = none → c3 = 0) := Lib.hid ho3.capz
  have HD3 : RowKit.Hid (Rd w3 w3.heap.size A3 32 (is (ints64 fixB))) := Lib.hid (by rw [fixB_ints]; exact ho3.rd.2)
  have HA3 : RowKit.Hid (Rd w3 w3.heap.size (some ⟨p, 0, none⟩) 288 (is (ints64 fixA))) := Lib.hid (by rw [is_fixA]; exact hp3.rdI hp3.lt)
  clear ho3 hg3 hf3 hq3 hp3 HO2 HP2 HB2 HQ2
  go_wp2_with fail
  refine (newWriter_any w3).mono ?_
  rintro e w4 ⟨rfl, hW4, hg4⟩
  have HW4 := Lib.hid hW4
  have HA4 := Lib.hid (HA3.out.next (below_make hg4))
  have HD4 := Lib.hid (HD3.out.next (below_make hg4))
  have HB4 := Lib.hid (HB3.out.trans ((below_make hg4).mono HB3.out.size))
  have HG4 : RowKit.Hid (w.heap.size ≤ w3.heap.size ∧ w3.heap.size + 1 ≤ w4.heap.size) := Lib.hid ⟨HB3.out.size, hW4.wr.row.lt⟩
  clear hW4 hg4 HA3 HD3 HB3
  go_wp2_with fail
  refine (codeOf_any (some ⟨p, 0, none⟩) 288 288 fixA w4 HA4.out (fun h => by cases h) (by decide +kernel) newA).mono ?_
  rintro e w5 ⟨hb5, a, rfl, hl5⟩
  have HW5 := Lib.hid (HW4.out.grow (grown_of_below hb5))
  have HD5 := Lib.hid (HD4.out.next hb5)
  have HB5 := Lib.hid (HB4.out.trans (hb5.mono HB4.out.size))
  have HL5 := Lib.hid hl5
  have HS5 := Lib.hid hb5.size
  clear hb5 hl5 HW4 HA4 HD4 HB4
  go_wp2_with fail
  refine (codeOf_any A3 32 c3 fixB w5 HD5.out HK3.out (by decide +kernel) newB).mono ?_
  rintro e w6 ⟨hb6, b, rfl, hl6⟩
  have hg7 := (grown_of_below hb6).trans (World.grownBy_alloc w6 (.cells #[.pointer (some ⟨w3.heap.size, 0, none⟩), .pointer (some ⟨a, 0, none⟩), .pointer (some ⟨b, 0, none⟩)] 84) none)
  have HPS : RowKit.Hid (PS (w6.alloc (.cells #[.pointer (some ⟨w3.heap.size, 0, none⟩), .pointer (some ⟨a, 0, none⟩), .pointer (some ⟨b, 0, none⟩)] 84)) w3.heap.size w3.heap.size (.slice none 0 0) [] (w3.heap.size + 1) (w6.heap.size + 1) a b) := Lib.hid
    ⟨HW5.out.grow hg7, by have := hb6.size; have := HS5.out; have := HG4.out; simp; omega, by omega, (fun k hk => by cases hk),
      (HL5.out.keep (fun k _ k2 => hg7.block k k2 (by simp))).wide HG4.out.2 (by have := hb6.size; omega),
      (hl6.keep (fun k _ k2 => (World.grownBy_alloc w6 _ none).block k k2 (by simp))).wide (by have := HS5.out; have := HG4.out; omega) (by omega), by simp⟩
  have HRW : RowKit.Hid (Row (w6.alloc (.cells #[.pointer (some ⟨w3.heap.size, 0, none⟩), .pointer (some ⟨a, 0, none⟩), .pointer (some ⟨b, 0, none⟩)] 84)) w6.heap.size #[.pointer (some ⟨w3.heap.size, 0, none⟩), .pointer (some ⟨a, 0, none⟩), .pointer (some ⟨b, 0, none⟩)] 84) := Lib.hid (heap_alloc_new w6 _)
  have HB7 : RowKit.Hid (Below w.heap.size w (w6.alloc (.cells #[.pointer (some ⟨w3.heap.size, 0, none⟩), .pointer (some ⟨a, 0, none⟩), .pointer (some ⟨b, 0, none⟩)] 84))) := Lib.hid (HB5.out.trans ((below_make hg7).mono HB5.out.size))
  clear hb6 hl6 hg7 HW5 HL5 HD5 HB5 HS5
  have HR7 : RowKit.Hid (Rd (w6.alloc (.cells #[.pointer (some ⟨w3.heap.size, 0, none⟩), .pointer (some ⟨a, 0, none⟩), .pointer (some ⟨b, 0, none⟩)] 84)) w.heap.size A n (us l)) := Lib.hid (HR.out.below HB7.out)
  have HG7 : RowKit.Hid (w.heap.size ≤ w3.heap.size ∧ w6.heap.size ≠ w3.heap.size) := Lib.hid ⟨HG4.out.1, fun e => by
    have h1 := HRW.out
    have h2 := HPS.out.wm.wr.row
    rw [e] at h1
    have := (h1.inj h2).2
    exact absurd this (by decide)⟩
  go_wp2_with fail
  refine (begin_any2 w3.heap.size w3.heap.size (some ⟨a, 0, none⟩) (some ⟨b, 0, none⟩) true 1 [] (.slice none 0 0) _ HPS.out.wm HPS.out.hB (by decide) (by decide)).mono ?_
  rintro e w8 ⟨rfl, v8, hW8, hS8⟩
  generalize hw7 : w6.alloc (.cells #[.pointer (some ⟨w3.heap.size, 0, none⟩), .pointer (some ⟨a, 0, none⟩), .pointer (some ⟨b, 0, none⟩)] 84) = w7 at HPS HRW HB7 HR7 hS8
  clear hw7
  generalize hH : w6.heap.size = H at HPS HRW HG7 hW8 hS8 ⊢
  generalize hgw : w3.heap.size = gw at HPS HRW HG7 hW8 hS8 ⊢
  clear hH hgw HG4
  rw [show ([] : List UInt8) ++ (lowB (if true = true then 1 else 0) 1 ++ lowB 1 2) = [1, 1, 0] by decide] at hW8
  have HP8 := Lib.hid (HPS.out.step hW8 hS8)
  have HS8 := Lib.hid hS8
  have HR8 := Lib.hid (hS8.row HRW.out HG7.out.2 (fun k hk => by cases hk))
  have HB8 : RowKit.Hid (Below gw w7 w8) := Lib.hid (hS8.below HPS.out.wm.wr HPS.out.hB (Nat.le_refl _))
  have HD8 : RowKit.Hid (Rd w8 w8.heap.size A n (us l)) := Lib.hid ((HR7.out.below (HB8.out.mono HG7.out.1)).more (Nat.le_trans HB7.out.size HS8.out.size))
  clear hW8 hS8
  go_wp2_with fail
  refine (tokens_any A n c l w8 HD8.out (by omega)).mono ?_
  rintro e w9 ⟨v9, rfl, ho9, hb9⟩
  obtain ⟨A9, c9, rfl, hz9, hd9⟩ := ho9.rd
  have HI9 : RowKit.Hid (TB w7 w9 gw H a b A9 (toksT l).length (toksT l) v8 [1, 1, 0]) := Lib.hid (by
    refine ⟨HP8.out.grow (grown_of_below hb9), HR8.out.grown (grown_of_below hb9) (by simp), hd9, fun g o hA => ?_, HB8.out.trans (hb9.mono HP8.out.hB)⟩
    have := ho9.place g o hA
    exact ⟨by have := HP8.out.hB; have := HP8.out.wm.wr.row.lt; omega, this.2, fun k hk => by have := (World.ownsRow.lt HP8.out.wm.wr.own k hk).2; omega⟩)
  have HT9 : RowKit.Hid ((toksT l).length ≤ n ∧ ∀ t ∈ toksT l, goodT t) := Lib.hid ⟨by have := toks_len l l.length 0; have := HL.out; unfold toksT; omega, toks_good l _ _⟩
  have HX2 : RowKit.Hid ([1, 1, 0] ++ (toksT l).flatMap tokB ++ bitsO fixA (256 : Nat) = X) := Lib.hid HX.out
  have hm : (toksT l).length ≤ n := HT9.out.1
  generalize hD : toksT l = D at HI9 HT9 HX2 hm ⊢
  generalize hDl : D.length = m at HI9 hm ⊢
  have HDL := Lib.hid hDl
  clear ho9 hb9 hz9 hd9 HP8 HS8 HR8 HB8 HD8 hD hDl
  have HPG : RowKit.Hid (gw ≤ w7.heap.size) := Lib.hid HPS.out.hB
  clear HPS HRW HR7
  go_wp2_with fail
  go_loopw [26] (fun i wr => ∃ (k : Nat) (v : Value), i = .int .i64 (k : Int) ∧ k ≤ m ∧ TB w7 wr gw H a b A9 m D v ([1, 1, 0] ++ (D.take k).flatMap tokB)) (fun i _ => m - (intOf i).toNat)
  case atStart => exact ⟨0, v8, rfl, Nat.zero_le _, HI9.out⟩
  case round =>
    clear HI9
    obtain ⟨k, v, rfl, hk, hI⟩ := hrel
    have HI := Lib.hid hI
    clear hI
    have HLM : RowKit.Hid (([1, 1, 0] ++ (D.take k).flatMap tokB : List UInt8).length ≤ 2400003) := Lib.hid (by
      have h1 := flat_length (D.take k)
      have h2 : (D.take k).length ≤ 30000 := by rw [List.length_take]; have := HDL.out; omega
      rw [List.length_append]
      simp only [List.length_cons, List.length_nil]
      omega)
    by_cases hlt : k < m
    · have d1 : decide ((k : Int) < (m : Int)) = true := decide_eq_true (by omega)
      obtain ⟨g, oo, t, hA, hg, ha, c0, c1, c2⟩ := HI.out.toks.cells hlt
      subst hA
      have HT : RowKit.Hid (D[k]? = some t ∧ goodT t) := Lib.hid ⟨ha, HT9.out.2 t (List.mem_of_getElem? ha)⟩
      have hg1 := World.grownBy_alloc wr (.cells #[U8 t.b, .int .i64 t.l, .int .i64 t.d] 44) none
      have HI1 := Lib.hid (HI.out.step (HI.out.ps.grow hg1) (St.none hg1))
      have hrt : Row (wr.alloc (.cells #[U8 t.b, .int .i64 t.l, .int .i64 t.d] 44)) wr.heap.size #[U8 t.b, .int .i64 t.l, .int .i64 t.d] 44 := heap_alloc_new wr _
      have q0 : (wr.alloc (.cells #[U8 t.b, .int .i64 t.l, .int .i64 t.d] 44)).cell? ⟨wr.heap.size, 0, none⟩ = some (.int .u8 (t.b.toNat : Int)) := hrt.cell 0
      have q1 : (wr.alloc (.cells #[U8 t.b, .int .i64 t.l, .int .i64 t.d] 44)).cell? ⟨wr.heap.size, 1, none⟩ = some (.int .i64 t.l) := hrt.cell 1
      have q2 : (wr.alloc (.cells #[U8 t.b, .int .i64 t.l, .int .i64 t.d] 44)).cell? ⟨wr.heap.size, 2, none⟩ = some (.int .i64 t.d) := hrt.cell 2
      have k0 : (wr.alloc (.cells #[U8 t.b, .int .i64 t.l, .int .i64 t.d] 44)).cell? ⟨H, 0, none⟩ = some (.pointer (some ⟨gw, 0, none⟩)) := HI1.out.row.cell 0
      have k1 : (wr.alloc (.cells #[U8 t.b, .int .i64 t.l, .int .i64 t.d] 44)).cell? ⟨H, 1, none⟩ = some (.pointer (some ⟨a, 0, none⟩)) := HI1.out.row.cell 1
      have k2 : (wr.alloc (.cells #[U8 t.b, .int .i64 t.l, .int .i64 t.d] 44)).cell? ⟨H, 2, none⟩ = some (.pointer (some ⟨b, 0, none⟩)) := HI1.out.row.cell 2
      clear ha hg hg1 hrt
      go_wp2_with fail
      refine (token_any gw gw (gw + 1) (H + 1) a b t v _ _ HI1.out.ps HT.out.2 (by have := HLM.out; omega)).mono ?_
      rintro e w3 ⟨rfl, v3, hP3, hS3⟩
      have hI3 := HI1.out.step hP3 hS3
      rw [show ([1, 1, 0] ++ (D.take k).flatMap tokB ++ tokB t : List UInt8) = [1, 1, 0] ++ (D.take (k + 1)).flatMap tokB by
        rw [List.take_add_one, HT.out.1]; simp] at hI3
      have HI3 := Lib.hid hI3
      clear hP3 hS3 hI3 q0 q1 q2 k0 k1 k2 c0 c1 c2
      go_wp2_with fail
      go_roundw
      case rel => exact ⟨k + 1, v3, rfl, by omega, HI3.out⟩
      case measure => simp [intOf]; omega
    · have hkm : k = m := by omega
      subst hkm
      have k0 : wr.cell? ⟨H, 0, none⟩ = some (.pointer (some ⟨gw, 0, none⟩)) := HI.out.row.cell 0
      have k1 : wr.cell? ⟨H, 1, none⟩ = some (.pointer (some ⟨a, 0, none⟩)) := HI.out.row.cell 1
      have k2 : wr.cell? ⟨H, 2, none⟩ = some (.pointer (some ⟨b, 0, none⟩)) := HI.out.row.cell 2
      go_wp2_with fail
      refine (sign_any2 (H + 1) a gw gw (some ⟨a, 0, none⟩) (some ⟨b, 0, none⟩) fixA 256 _ v wr (HI.out.ps.ca wr (fun _ _ _ => rfl)) HI.out.ps.hK (by decide +kernel) HI.out.ps.wm HI.out.ps.hB (by have := HLM.out; omega)).mono ?_
      rintro e w3 ⟨rfl, v3, hW3, hS3⟩
      rw [List.take_of_length_le (by rw [HDL.out]; exact Nat.le_refl _), HX2.out] at hW3
      have HI3 : RowKit.Hid (WM w3 gw gw v3 X ∧ Row w3 H #[.pointer (some ⟨gw, 0, none⟩), .pointer (some ⟨a, 0, none⟩), .pointer (some ⟨b, 0, none⟩)] 84 ∧ Below gw wr w3) := Lib.hid
        ⟨hW3, hS3.row HI.out.row HG7.out.2 (fun k hk => by have := HI.out.ps.own k hk; omega), hS3.below HI.out.ps.wm.wr HI.out.ps.hB (Nat.le_refl _)⟩
      have HXL : RowKit.Hid (X.length ≤ 7000000) := Lib.hid (by
        have := HLM.out
        rw [← HX2.out, List.length_append, bitsO_length]
        have h3 : lenI fixA (256 : Nat) = 7 := by decide +kernel
        rw [List.take_of_length_le (by rw [HDL.out]; exact Nat.le_refl _)] at this
        omega)
      clear hW3 hS3 k0 k1 k2
      have k0 : w3.cell? ⟨H, 0, none⟩ = some (.pointer (some ⟨gw, 0, none⟩)) := HI3.out.2.1.cell 0
      go_wp2_with fail
      refine (wtext_any gw gw X v3 w3 HI3.out.1 HXL.out).mono ?_
      rintro e w4 ⟨u, rfl, ho, hg⟩
      have HF : RowKit.Hid (Own w4 w.heap.size u (textB X) ∧ Below w.heap.size w w4) := Lib.hid (by
        have h1 := HI.out.below.trans HI3.out.2.2
        have h2 := h1.trans ((below_make hg).mono (Nat.le_trans HPG.out h1.size))
        exact ⟨own_mono ho (Nat.le_trans HG7.out.1 (Nat.le_trans HPG.out h1.size)), HB7.out.trans (h2.mono HG7.out.1)⟩)
      clear ho hg k0
      go_wp2_with fail
      go_ret
      exact ⟨_, rfl, HF.out.1, HF.out.2⟩
end Go.Proofs.YtpnnlhegncbfaaaDoor
