/- Contract of value. -/
import Derived.Test.YtfebfkbdbncihaaGreatDoorNud
import Derived.Test.YtfebfkbdbncihaaGreatDoorShelf
namespace Go.Proofs.YtfebfkbdbncihaaGreatDoor
set_option maxRecDepth 20000
open Go.RowKit

/-- The package variables that are read by whole numbers' calls. -/
structure NTabs (w : World) : Prop where
  big : 17 ≤ w.heap.size
  er : ∃ te pe, w.cell? ⟨2, 0, none⟩ = some (.iface te pe)
  es : ∃ te pe, w.cell? ⟨1, 0, none⟩ = some (.iface te pe)
  u64 : Lib.TabIs Tryz.prog w "internal/strconv.uint64pow10" .u64 Lib.pow10Tab
  opt : w.cell? ⟨4, 0, none⟩ = some (.bool true)
theorem NTabs.block {w w' : World} (h : NTabs w) (hs : w.heap.size ≤ w'.heap.size) (hb : ∀ k, k < w.heap.size → w'.heap[k]? = w.heap[k]?) : NTabs w' := by
  have hbig := h.big
  have hc : ∀ k j, k < 17 → w'.cell? ⟨k, j, none⟩ = w.cell? ⟨k, j, none⟩ := fun k j hk => by unfold World.cell?; dsimp only; rw [hb k (by omega)]
  refine ⟨by omega, ?_, ?_, ?_, by rw [hc 4 0 (by omega)]; exact h.opt⟩
  · rw [hc 2 0 (by omega)]; exact h.er
  · rw [hc 1 0 (by omega)]; exact h.es
  · have hu := h.u64
    have hn : Tryz.prog.globalNamed "internal/strconv.uint64pow10" = some 3 := by kernel_rfl
    unfold Lib.TabIs World.var? at hu ⊢
    rw [hn, Option.bind_some] at hu ⊢
    rw [hb 3 (by omega)]
    exact hu
theorem NTabs.below {w w' : World} (h : NTabs w) (hb : Below w.heap.size w w') : NTabs w' := h.block hb.size (fun k hk => hb.block k hk)
theorem NTabs.grown {w w' : World} (h : NTabs w) (hg : w.grownBy w' none) : NTabs w' := h.block hg.size (fun k hk => hg.block k hk (by simp))
theorem tx_append (a b : List UInt8) : tx a ++ tx b = tx (a ++ b) := by
  apply ByteArray.ext
  simp [tx]
theorem triml (l : List UInt8) (w : World) : Calls Tryz.prog 41 #[.string (tx l), .string ⟨#[48]⟩] w fun e w' => e = .returned (.string (tx (Lib.trimLeftB l 48))) ∧ w = w' :=
  (Tryz.strings_TrimLeft_one (tx l) 48 (by decide) w).mono fun e w' ⟨h1, h2⟩ => ⟨by rw [h1, tx_data]; rfl, h2.symm⟩
theorem trimr (l : List UInt8) (hl : l.length ≤ 1000000) (w : World) : Calls Tryz.prog 42 #[.string (tx l), .string ⟨#[48]⟩] w fun e w' => e = .returned (.string (tx (Lib.trimRightB l 48))) ∧ w = w' :=
  (Tryz.strings_TrimRight_one (tx l) 48 (by decide) w (by rw [tx_size]; omega)).mono fun e w' ⟨h1, h2⟩ => ⟨by rw [h1, tx_data]; rfl, h2.symm⟩
theorem repl (c : Nat) (hc : c ≤ 1000000) (w : World) : Calls Tryz.prog 43 #[.string ⟨#[48]⟩, .int .i64 (c : Int)] w fun e w' => e = .returned (.string (tx (Lib.repeatL [48] c))) ∧ Below w.heap.size w w' :=
  (Tryz.strings_Repeat ⟨#[48]⟩ c w (by omega) (by show 1 * c ≤ _; omega)).mono fun e w' ⟨h1, h2⟩ => ⟨h1, h2⟩
/-- The whole number of a text, or that it is none within 64 bits. -/
def intE (l : List UInt8) : Int × Nat := match Lib.parseIntB 64 l with | .ok v => (v, 0) | _ => (0, 1)
/-- What ParseInt leaves: the number, or an error. -/
def PiM (w : World) (l : List UInt8) (e : Ending) (w' : World) : Prop :=
  Below w.heap.size w w' ∧ (((intE l).2 = 0 ∧ e = .returned (.tuple #[.int .i64 (intE l).1, .nilIface])) ∨ ((intE l).2 = 1 ∧ ∃ z N, e = .returned (.tuple #[.int .i64 z, .iface 84 (.pointer (some ⟨N, 0, none⟩))])))
theorem parse_any (l : List UInt8) (hl : l.length ≤ 1000000) (w : World) (ht : NTabs w) : Calls Tryz.prog 44 #[.string (tx l), .int .i64 10, .int .i64 64] w (PiM w l) := by
  have hs : (tx l).size ≤ 1000000 := by rw [tx_size]; exact hl
  unfold PiM intE
  cases h : Lib.parseIntB 64 l with
  | ok v =>
    refine (Tryz.strconv_ParseInt_10_at64_ok (tx l) (by omega) v (by rw [tx_data]; exact h) w).mono ?_
    rintro e w' ⟨rfl, hw⟩
    refine ⟨?_, .inl ⟨rfl, rfl⟩⟩
    rcases hw with rfl | ⟨t, rfl⟩
    · exact Below.refl _ _
    · exact below_bytes w t
  | «syntax» =>
    obtain ⟨te, pe, hv⟩ := ht.es
    refine (Tryz.strconv_ParseInt_10_at64_syntax (tx l) (by omega) (by rw [tx_data]; exact h) (.iface te pe) w hv (.inr ⟨te, pe, rfl⟩)).mono ?_
    rintro e w' ⟨N, rfl, _, _, hb⟩
    exact ⟨hb, .inr ⟨rfl, _, N, rfl⟩⟩
  | range =>
    obtain ⟨te, pe, hv⟩ := ht.er
    refine (Tryz.strconv_ParseInt_10_at64_range (tx l) (by omega) (by rw [tx_data]; exact h) (.iface te pe) w hv (.inr ⟨te, pe, rfl⟩)).mono ?_
    rintro e w' ⟨N, rfl, _, _, hb⟩
    exact ⟨hb, .inr ⟨rfl, _, N, rfl⟩⟩
/-- The value of parts: the figures, those that count, how many noughts stand behind them. -/
def vAll (A B : List UInt8) : List UInt8 := Lib.trimLeftB (A ++ B) 48
def vKept (A B : List UInt8) : List UInt8 := Lib.trimRightB (vAll A B) 48
def vZ (A B : List UInt8) (Z : Int) : Int := Z - B.length + (vAll A B).length - (vKept A B).length
def vText (m : Bool) (A B : List UInt8) (Z : Int) : List UInt8 := (if m then [45] else []) ++ (vKept A B ++ Lib.repeatL [48] (vZ A B Z).toNat)
def valR (m : Bool) (A B : List UInt8) (Z : Int) : Int × Nat :=
  if (vAll A B).isEmpty then (0, 0) else if vZ A B Z < 0 then (0, 11) else if 19 < (vKept A B).length + vZ A B Z then (0, 1) else intE (vText m A B Z)
/-- What value leaves. -/
def VlM (w : World) (r : Int × Nat) (e : Ending) (w' : World) : Prop := Below w.heap.size w w' ∧ e = .returned (.tuple #[.int .i64 r.1, errV r.2])
theorem dropWhile_le (p : UInt8 → Bool) (l : List UInt8) : (l.dropWhile p).length ≤ l.length := by
  have h := congrArg List.length (List.takeWhile_append_dropWhile (p := p) (l := l))
  rw [List.length_append] at h; omega
theorem vAll_le (A B : List UInt8) : (vAll A B).length ≤ A.length + B.length := by
  have := dropWhile_le (· == 48) (A ++ B)
  rw [List.length_append] at this
  exact this
theorem vKept_le (A B : List UInt8) : (vKept A B).length ≤ (vAll A B).length := by
  unfold vKept Lib.trimRightB
  rw [List.length_reverse]
  have := dropWhile_le (· == 48) (vAll A B).reverse
  rwa [List.length_reverse] at this
set_option maxHeartbeats 4000000 in
theorem value_any (m : Bool) (A B : List UInt8) (Z : Int) (w : World) (hA : A.length ≤ 1000) (hB : B.length ≤ 1000) (hZ1 : -1000 ≤ Z) (hZ2 : Z ≤ 1000) (ht : NTabs w) :
    Calls Tryz.prog 31 #[.agg #[.bool m, .string (tx A), .string (tx B), .int .i64 Z]] w (VlM w (valR m A B Z)) := by
  have hcat : tx A ++ tx B = tx (A ++ B) := tx_append A B
  have HL := Lib.hid (triml (A ++ B))
  have hno : ¬ 9223372036854775807 < (tx A).size + (tx B).size := by rw [tx_size, tx_size]; omega
  have hsB : (tx B).size = B.length := tx_size B
  have hsa : (tx (Lib.trimLeftB (A ++ B) 48)).size = (vAll A B).length := tx_size _
  have hka := vAll_le A B
  have hkk := vKept_le A B
  have HR := Lib.hid (trimr (Lib.trimLeftB (A ++ B) 48) (by have : (Lib.trimLeftB (A ++ B) 48).length = (vAll A B).length := rfl; omega))
  have hsk : (tx (Lib.trimRightB (Lib.trimLeftB (A ++ B) 48) 48)).size = (vKept A B).length := tx_size _
  have HV : RowKit.Hid (valR m A B Z = valR m A B Z) := Lib.hid rfl
  cases hE : (vAll A B).isEmpty
  · have hE2 : ¬ (tx (Lib.trimLeftB (A ++ B) 48)).toList = [] := by
      rw [tx_toList]
      intro e
      rw [show vAll A B = [] from e] at hE
      cases hE
    have hE3 : (tx (Lib.trimLeftB (A ++ B) 48)).toList.isEmpty = false := by rw [tx_toList]; exact hE
    have HO : RowKit.Hid (valR m A B Z = if vZ A B Z < 0 then (0, 11) else if 19 < (vKept A B).length + vZ A B Z then (0, 1) else intE (vText m A B Z)) := Lib.hid (by unfold valR; rw [hE]; rfl)
    have HT : RowKit.Hid (vText m A B Z = (if m then [45] else []) ++ (vKept A B ++ Lib.repeatL [48] (vZ A B Z).toNat)) := Lib.hid rfl
    have HZ : RowKit.Hid (vZ A B Z = Z - B.length + (vAll A B).length - (vKept A B).length) := Lib.hid rfl
    have HK : RowKit.Hid (tx (vKept A B) = tx (Lib.trimRightB (Lib.trimLeftB (A ++ B) 48) 48)) := Lib.hid rfl
    have HW := Lib.hid (ow_new w #[.bool m, .string (tx A), .string (tx B), .int .i64 Z])
    have HNT := Lib.hid ht
    generalize vText m A B Z = T at HO HT
    generalize vZ A B Z = V at HO HT HZ
    generalize valR m A B Z = R at HO ⊢
    clear HV
    generalize tx (Lib.trimLeftB (A ++ B) 48) = sa at HL HR hsa hE2 hE3
    generalize tx (Lib.trimRightB (Lib.trimLeftB (A ++ B) 48) 48) = sk at HR hsk HK
    generalize tx (A ++ B) = sab at hcat HL
    generalize tx A = sA at *
    generalize tx B = sB at *
    generalize (vAll A B).length = na at hsa hka hkk HZ
    generalize vKept A B = K at hsk hkk HZ HT HO HK
    generalize hnk : K.length = nk at hsk hkk HZ HO
    have HNK := Lib.hid hnk
    generalize B.length = nb at hsB hB hka HZ hno
    clear hE hnk ht
    by_cases hz : V < 0
    · have hz1 : Z - (nb : Int) + (na : Int) - (nk : Int) < 0 := by rw [← HZ.out]; exact hz
      have HO2 : RowKit.Hid (R = (0, 11)) := Lib.hid (by rw [HO.out, if_pos hz])
      go_enter Tryz.func31, Tryz.ntmps31
      go_wp2_with (first | (go_at_call 41; refine (HL.out _).mono ?_; rintro e w1 ⟨rfl, rfl⟩) | (go_at_call 42; refine (HR.out _).mono ?_; rintro e w1 ⟨rfl, rfl⟩))
      go_ret2
      exact ⟨HW.out.bl, by rw [HO2.out]; rfl⟩
    · have hz1 : ¬ Z - (nb : Int) + (na : Int) - (nk : Int) < 0 := by rw [← HZ.out]; exact hz
      by_cases h19 : 19 < (nk : Int) + V
      · have h20 : 19 < (nk : Int) + (Z - (nb : Int) + (na : Int) - (nk : Int)) := by rw [← HZ.out]; exact h19
        have HO2 : RowKit.Hid (R = (0, 1)) := Lib.hid (by rw [HO.out, if_neg hz, if_pos h19])
        go_enter Tryz.func31, Tryz.ntmps31
        go_wp2_with (first | (go_at_call 41; refine (HL.out _).mono ?_; rintro e w1 ⟨rfl, rfl⟩) | (go_at_call 42; refine (HR.out _).mono ?_; rintro e w1 ⟨rfl, rfl⟩))
        go_ret2
        exact ⟨HW.out.bl, by rw [HO2.out]; rfl⟩
      · have h20 : ¬ 19 < (nk : Int) + (Z - (nb : Int) + (na : Int) - (nk : Int)) := by rw [← HZ.out]; exact h19
        have HO2 : RowKit.Hid (R = intE T) := Lib.hid (by rw [HO.out, if_neg hz, if_neg h19])
        obtain ⟨v, hv⟩ : ∃ v : Nat, V = (v : Int) := ⟨V.toNat, by omega⟩
        have hv1 : Z - (nb : Int) + (na : Int) - (nk : Int) = (v : Int) := by rw [← HZ.out]; exact hv
        go_enter Tryz.func31, Tryz.ntmps31
        go_wp2_with (first | (go_at_call 41; refine (HL.out _).mono ?_; rintro e w1 ⟨rfl, rfl⟩) | (go_at_call 42; refine (HR.out _).mono ?_; rintro e w1 ⟨rfl, rfl⟩))
        refine (repl v (by omega) _).mono ?_
        rintro e w3 ⟨rfl, hb3⟩
        have HY := Lib.hid (HW.out.below hb3)
        have HNT3 := Lib.hid ((HNT.out.below HW.out.bl).below hb3)
        have n0 : w3.cell? ⟨w.heap.size, 0, none⟩ = some (.bool m) := HY.out.r0.cell 0
        have hcat2 : sk ++ tx (Lib.repeatL [48] v) = tx (K ++ Lib.repeatL [48] v) := by rw [← HK.out]; exact tx_append _ _
        have hrl : (Lib.repeatL [48] v).length = v := by rw [Lib.repeatL_length]; simp
        have hsr : (tx (Lib.repeatL [48] v)).size = v := by rw [tx_size, hrl]
        have hno2 : ¬ 9223372036854775807 < sk.size + (tx (Lib.repeatL [48] v)).size := by rw [hsk, hsr]; omega
        have HKL : RowKit.Hid ((K ++ Lib.repeatL [48] v).length ≤ 3000) := Lib.hid (by rw [List.length_append, HNK.out, hrl]; omega)
        have hsx : (tx (K ++ Lib.repeatL [48] v)).size = nk + v := by rw [tx_size, List.length_append, HNK.out, hrl]
        rw [hv, Int.toNat_natCast] at HT
        generalize K ++ Lib.repeatL [48] v = G at HT hcat2 HKL hsx
        generalize tx (Lib.repeatL [48] v) = sr at hcat2 hno2 hsr ⊢
        clear hb3 HL HR HW hrl
        cases m
        · have HT2 : RowKit.Hid (T = G) := Lib.hid (by rw [HT.out]; rfl)
          have HP := Lib.hid (parse_any G (by have := HKL.out; omega) w3 HNT3.out)
          rw [← HT2.out] at HP hcat2
          generalize tx T = st at HP hcat2
          go_wp2_with fail
          refine HP.out.mono ?_
          rintro e w4 ⟨hb4, (⟨h0, rfl⟩ | ⟨h1, zz, NN, rfl⟩)⟩
          · have HF := Lib.hid (And.intro (HY.out.below hb4).bl h0)
            clear hb4 h0
            obtain ⟨zv, hzv⟩ : ∃ zv, (intE T).1 = zv := ⟨_, rfl⟩
            have HZV := Lib.hid hzv
            rw [hzv]
            clear hzv
            go_wp2_with fail
            go_ret2
            exact ⟨HF.out.1, by rw [HO2.out, HF.out.2, HZV.out]; rfl⟩
          · have HF := Lib.hid (And.intro (HY.out.below hb4).bl h1)
            clear hb4 h1
            have HE1 : RowKit.Hid (intE T = (0, 1)) := Lib.hid (by
              have h := HF.out.2
              unfold intE at h ⊢
              split
              · rename_i v h2; rw [h2] at h; cases h
              · rfl)
            go_wp2_with fail
            go_ret2
            exact ⟨HF.out.1, by rw [HO2.out, HE1.out]; rfl⟩
        · have HT2 : RowKit.Hid (T = 45 :: G) := Lib.hid (by rw [HT.out]; rfl)
          have HP := Lib.hid (parse_any (45 :: G) (by have := HKL.out; simp; omega) w3 HNT3.out)
          have hcat3 : (⟨#[45]⟩ : ByteArray) ++ tx G = tx (45 :: G) := tx_append [45] G
          have hno3 : ¬ 9223372036854775807 < 1 + (tx G).size := by rw [hsx]; omega
          rw [← HT2.out] at HP hcat3
          generalize tx T = st at HP hcat3
          generalize tx G = sg at hcat2 hcat3 hsx hno3
          go_wp2_with fail
          refine HP.out.mono ?_
          rintro e w4 ⟨hb4, (⟨h0, rfl⟩ | ⟨h1, zz, NN, rfl⟩)⟩
          · have HF := Lib.hid (And.intro (HY.out.below hb4).bl h0)
            clear hb4 h0
            obtain ⟨zv, hzv⟩ : ∃ zv, (intE T).1 = zv := ⟨_, rfl⟩
            have HZV := Lib.hid hzv
            rw [hzv]
            clear hzv
            go_wp2_with fail
            go_ret2
            exact ⟨HF.out.1, by rw [HO2.out, HF.out.2, HZV.out]; rfl⟩
          · have HF := Lib.hid (And.intro (HY.out.below hb4).bl h1)
            clear hb4 h1
            have HE1 : RowKit.Hid (intE T = (0, 1)) := Lib.hid (by
              have h := HF.out.2
              unfold intE at h ⊢
              split
              · rename_i v h2; rw [h2] at h; cases h
              · rfl)
            go_wp2_with fail
            go_ret2
            exact ⟨HF.out.1, by rw [HO2.out, HE1.out]; rfl⟩
  · have HO : RowKit.Hid (valR m A B Z = (0, 0)) := Lib.hid (by unfold valR; rw [hE]; rfl)
    have hE2 : (tx (Lib.trimLeftB (A ++ B) 48)).toList = [] := by rw [tx_toList]; simpa [vAll] using hE
    have HB := Lib.hid (below_make (World.grownBy_alloc w (.cells #[.bool m, .string (tx A), .string (tx B), .int .i64 Z] 56) none))
    generalize tx (Lib.trimLeftB (A ++ B) 48) = sa at HL HR hsa hE2
    generalize tx (A ++ B) = sab at hcat HL
    generalize tx A = sA at *
    generalize tx B = sB at *
    clear hE hka hkk hsk HR hsa
    go_enter Tryz.func31, Tryz.ntmps31
    go_wp2_with (first | (go_at_call 41; refine (HL.out _).mono ?_; rintro e w1 ⟨rfl, rfl⟩))
    go_ret2
    exact ⟨HB.out, by rw [HO.out]; rfl⟩
end Go.Proofs.YtfebfkbdbncihaaGreatDoor
