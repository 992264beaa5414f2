/- Contract of the law HuffCodes. -/
import Derived.Test.YtfkbaagigdjbpaaRcd
import Derived.Test.YtfkbaagigdjbpaaFix
import Derived.Test.YtfkbaagigdjbpaaPut
namespace Go.Proofs.Ytfkbaagigdjbpaa
open Go.RowKit

set_option maxHeartbeats 400000 in
theorem codes_long (A : Option Addr) (n c : Nat) (lone : Bool) (w : World) (hn : 330 < n) :
    Calls Try.prog 3 #[.slice A n c, .bool lone] w fun e w' => e = .returned (.bool true) ∧ Below w.heap.size w w' := by
  have hd : decide ((330 : Int) < (n : Int)) = true := decide_eq_true (by omega)
  go_enter Try.func3, Try.ntmps3
  go_wp2_with fail
  refine (alive_true w).mono ?_
  rintro e w1 ⟨rfl, hb1⟩
  have HB1 := Lib.hid hb1
  clear hb1
  go_wp2_with fail
  go_ret
  exact ⟨rfl, HB1.out⟩

theorem noCapI {w : World} {B : Nat} {A : Option Addr} {n c : Nat} {l : List Int} (h : OwnI w B (.slice A n c) l) : A = none → c = 0 := by
  rcases h.2 with ⟨hv, _⟩ | ⟨g, cap, cur, hv, _⟩
  · injection hv with h1 h2 h3; intro _; exact h3
  · injection hv with h1 h2 h3; intro e; rw [e] at h1; cases h1
theorem own_at {w : World} {B : Nat} {A : Option Addr} {n c : Nat} {l : List Int} (h : OwnI w B (.slice A n c) l) (hn : 0 < n) : ∃ b, A = some ⟨b, 0, none⟩ ∧ B ≤ b ∧ b < w.heap.size := by
  rcases h.2 with ⟨hv, hl⟩ | ⟨g, cap, cur, hv, hb, hg, _⟩
  · injection hv with h1 h2 h3; omega
  · injection hv with h1 h2 h3; exact ⟨g, h1, hb, (Array.getElem?_eq_some_iff.1 hg).1⟩
/-- While the law writes over its own lengths. -/
structure CL (W wr w3 : World) (B lo p n : Nat) (ls : List Nat) (A : Option Addr) (c : Nat) : Prop where
  own : ∃ L', L'.length = n ∧ OwnI wr B (.slice A n c) L'
  agree : ∀ k, lo ≤ k → k < w3.heap.size → wr.heap[k]? = w3.heap[k]?
  row : Row wr p (sa (strAt ls) n) 9
  below : Below W.heap.size W wr
theorem CL.set {W wr w3 : World} {B lo p n : Nat} {ls : List Nat} {b c : Nat} (h : CL W wr w3 B lo p n ls (some ⟨b, 0, none⟩) c) (hB : W.heap.size ≤ B) (hb : B ≤ b) (hl : b < lo) (hp : lo ≤ p) (k : Nat) (z : Int) : CL W (wr.setCell ⟨b, k, none⟩ (.int .i64 z)) w3 B lo p n ls (some ⟨b, 0, none⟩) c := by
  obtain ⟨L', h1, h2⟩ := h.own
  refine ⟨⟨L'.set k z, by rw [List.length_set]; exact h1, ?_⟩, fun j hj1 hj2 => (heap_setCell_other wr ⟨b, k, none⟩ j _ (by show j ≠ b; omega)).trans (h.agree j hj1 hj2), h.row.other (by omega) _ _, h.below.grown (grown_setCell _ _ _ _) h.below.size (fun j e => by injection e with e; omega)⟩
  have h3 : wr.ownsRow B 3 1 (.slice (some ⟨b, 0, none⟩) n c) n (is L') := by have := h2; unfold OwnI at this; rwa [h1] at this
  have h4 := World.ownsRow.stored h3 k (.int .i64 z)
  unfold OwnI
  rw [List.length_set, h1, show is (L'.set k z) = (is L').set k (.int .i64 z) by simp [is, List.map_set]]
  exact h4.1
theorem CL.still {W wr w' w3 : World} {B lo p n : Nat} {ls : List Nat} {A : Option Addr} {c : Nat} (h : CL W wr w3 B lo p n ls A c) (hg : wr.grownBy w' none) (hs : w3.heap.size ≤ wr.heap.size) : CL W w' w3 B lo p n ls A c := by
  obtain ⟨L', h1, h2⟩ := h.own
  exact ⟨⟨L', h1, World.ownsRow.kept h2 hg (ne_none _)⟩, fun k hk1 hk2 => (hg.block k (by omega) (by simp)).trans (h.agree k hk1 hk2), h.row.grown hg (by simp), h.below.grown hg h.below.size (fun _ h => by cases h)⟩
theorem CL.cell {W wr w3 : World} {B lo p n : Nat} {ls : List Nat} {b c : Nat} (h : CL W wr w3 B lo p n ls (some ⟨b, 0, none⟩) c) {k : Nat} (hk : k < n) : (∃ z, wr.cell? ⟨b, k, none⟩ = some (.int .i64 z)) ∧ wr.frozen? ⟨b, k, none⟩ = false := by
  obtain ⟨L', h1, h2⟩ := h.own
  have h3 : wr.ownsRow B 3 1 (.slice (some ⟨b, 0, none⟩) n c) n (is L') := by have := h2; unfold OwnI at this; rwa [h1] at this
  refine ⟨⟨L'[k], ?_⟩, World.ownsRow.frozenAt h3 k⟩
  rw [World.ownsRow.cellAt h3 k (by omega)]
  simp [is, List.getElem?_eq_getElem (show k < L'.length by omega)]
theorem strAt_none {ls : List Nat} {i : Nat} (h : ls.length ≤ i) : codeI ls (i : Int) = 0 ∧ lenI ls (i : Int) = 0 := by
  rw [codeI_nat, lenI_nat, code_ne_zero (lenAt_ge h), lenAt_ge h]; exact ⟨rfl, rfl⟩

set_option maxRecDepth 10000 in
set_option maxHeartbeats 4000000 in
theorem codes_any (A : Option Addr) (n c : Nat) (L : List Int) (lone : Bool) (w : World) (hr : Rd w w.heap.size A n (is L)) (hA : A = none → c = 0) (hn : n ≤ 330) :
    Calls Try.prog 3 #[.slice A n c, .bool lone] w fun e w' => e = .returned (.bool true) ∧ Below w.heap.size w w' := by
  have hd : decide ((330 : Int) < (n : Int)) = false := decide_eq_false (by omega)
  have HLN : RowKit.Hid (L.length = n) := Lib.hid (by have := hr.1; rwa [is_length] at this)
  have HR := Lib.hid hr
  have HA := Lib.hid hA
  clear hr hA
  go_enter Try.func3, Try.ntmps3
  go_wp2_with fail
  refine (alive_true w).mono ?_
  rintro e w1 ⟨rfl, hb1⟩
  have HB1 := Lib.hid hb1
  clear hb1
  have HO := Lib.hid (OwnI.lit w1 #[] [] 0 rfl rfl (by decide))
  have HG := Lib.hid (World.grownBy_alloc w1 (.cells #[] 3) none)
  have HR1 := Lib.hid (HR.out.next HB1.out)
  go_wp2_with (at_builtin; refine catI (w1.alloc (.cells #[] 3)) rfl (.tmp 23) (.tmp 24) rfl w1.heap.size w1.heap.size _ [] L _ n c rfl rfl HO.out (HR1.out.below (below_make HG.out)) HA.out (by simp) (by simp; omega) ?_)
  intro v w2 ho hg _
  have hgw : w1.grownBy w2 none := ⟨hg.os.trans HG.out.os, hg.tape.trans HG.out.tape, hg.output.trans HG.out.output, Nat.le_trans HG.out.size hg.size, fun k hk _ => (hg.block k (by simp; omega) (by simp [Value.ownBlock]; omega)).trans (HG.out.block k hk (by simp))⟩
  obtain ⟨A1, c1, hv⟩ := ho.slice
  rw [HLN.out] at hv
  subst hv
  have HB2 := Lib.hid (HB1.out.grown hgw HB1.out.size (fun _ h => by cases h))
  have HO2 := Lib.hid ho
  have HW1 := Lib.hid HB1.out.size
  clear ho hg hgw HO HG HR1 HB1
  generalize w1.heap.size = B at HO2 HW1
  go_wp2_with fail
  refine (new_full A1 n c1 L lone w2 HO2.out.rd.2 (noCapI HO2.out) (by omega)).mono ?_
  rintro e w3 ⟨⟨hb3, hno, hyes⟩, hhl⟩
  have HB3 := Lib.hid (HB2.out.trans (hb3.mono HB2.out.size))
  have HB23 := Lib.hid hb3
  have HR3 := Lib.hid (HR.out.next HB3.out)
  clear hb3 HB2
  by_cases hz : newE L lone = 0
  · obtain ⟨g, rfl, hc⟩ := hyes hz
    have HL0 := Lib.hid (hhl g rfl hz)
    have HRG := Lib.hid (newE_rng hz)
    have HZ := Lib.hid hz
    clear hno hyes hc hhl hz
    go_wp2_with fail
    refine (rcodes_any A n c L lone w3 HR3.out (by omega)).mono ?_
    rintro e w4 ⟨hb4, _, hyes⟩
    obtain ⟨p, rfl, hp, hrow⟩ := hyes HZ.out
    rw [HLN.out] at hrow ⊢
    have HB4 := Lib.hid (HB3.out.trans (hb4.mono HB3.out.size))
    obtain ⟨ls, HLS⟩ : ∃ ls, RowKit.Hid (nats L = ls) := ⟨_, Lib.hid rfl⟩
    rw [HLS.out] at HL0 hrow
    have HLL : RowKit.Hid (ls.length = n) := Lib.hid (by rw [← HLS.out, nats_length, HLN.out])
    have HRL : RowKit.Hid (Rd w w.heap.size A n (ia (lenAt ls) n).toList) := Lib.hid (by have := HR.out; rw [is_nats HRG.out, HLN.out, HLS.out] at this; exact this)
    have HO4 : RowKit.Hid (OwnI w4 B (.slice A1 n c1) L) := Lib.hid (by
      have h1 := World.ownsRow.kept HO2.out (grown_of_below HB23.out) (ne_none _)
      exact World.ownsRow.kept h1 (grown_of_below hb4) (ne_none _))
    have HX : RowKit.Hid (w2.heap.size ≤ w3.heap.size ∧ w3.heap.size ≤ p ∧ ∀ b, A1 = some ⟨b, 0, none⟩ → B ≤ b ∧ b < w2.heap.size) := Lib.hid ⟨HB23.out.size, hp, fun b hb => by
      rcases Nat.eq_zero_or_pos n with h0 | h0
      · subst hb
        have h1 := World.ownsRow.lt HO2.out b rfl
        exact ⟨h1.1, h1.2⟩
      · obtain ⟨b', hb', h1, h2⟩ := own_at HO2.out h0
        rw [hb] at hb'
        injection hb' with hb'
        injection hb' with hb' _ _
        subst hb'
        exact ⟨h1, h2⟩⟩
    have HC4 : RowKit.Hid (CL w w4 w3 B w2.heap.size p n ls A1 c1) := Lib.hid ⟨⟨L, HLN.out, HO4.out⟩, fun k _ hk => hb4.block k hk, hrow, HB4.out⟩
    have HR4 := Lib.hid (HR.out.next HB4.out)
    clear hb4 hrow hp hyes HR3 HB3 HB23 HO2 HRG
    generalize w2.heap.size = lo at HX HC4 HL0
    go_wp2_with fail
    refine (ints_same A1 n c1 A n c L w4 HO4.out.rd.2 HR4.out (by omega)).mono ?_
    rintro e w5 ⟨rfl, m5, hw5⟩
    have hg5 : w4.grownBy w5 none := by rw [hw5]; exact grown_drewN _ _
    have HC5 : RowKit.Hid (CL w w5 w3 B lo p n ls A1 c1) := Lib.hid ⟨⟨L, HLN.out, World.ownsRow.kept HO4.out hg5 (ne_none _)⟩, by rw [hw5]; exact HC4.out.agree, HC4.out.row.grown hg5 (by simp), HC4.out.below.grown hg5 HC4.out.below.size (fun _ h => by cases h)⟩
    clear hg5 hw5 HC4 HO4 HR4
    go_wp2_with fail
    refine (num_any 0 w5).mono ?_
    rintro e w6 ⟨rfl, rfl⟩
    go_wp2_with fail
    have HSZ : RowKit.Hid (w3.heap.size ≤ w6.heap.size) := Lib.hid (by have h1 := HX.out.2.1; have h2 := HC5.out.row.lt; omega)
    go_loopw [59] (fun i wr => ∃ k : Nat, k ≤ n ∧ i = .int .i64 (k : Int) ∧ CL w wr w3 B lo p n ls A1 c1 ∧ w3.heap.size ≤ wr.heap.size) (fun i _ => n - (intOf i).toNat)
    case atStart => exact ⟨0, by omega, rfl, HC5.out, HSZ.out⟩
    case round =>
      clear HC5 HSZ
      obtain ⟨k, hk, rfl, hI, hsz⟩ := hrel
      have HI := Lib.hid (And.intro hI hsz)
      clear hI hsz
      by_cases hkn : k < n
      · have hdk : decide ((k : Int) < (n : Int)) = true := decide_eq_true (by omega)
        obtain ⟨L', hl1, hl2⟩ := HI.out.1.own
        obtain ⟨b, hA1, _, _⟩ := own_at hl2 (show 0 < n by omega)
        subst hA1
        clear hl1 hl2
        obtain ⟨⟨z, c2⟩, c3⟩ := HI.out.1.cell hkn
        have hbb := HX.out.2.2 b rfl
        have HJ := Lib.hid (And.intro (HI.out.1.set HW1.out hbb.1 hbb.2 (by have := HX.out.1; have := HX.out.2.1; omega) k 9) (show w3.heap.size ≤ (wr.setCell ⟨b, k, none⟩ (.int .i64 9)).heap.size by have := HI.out.2; simpa [World.setCell] using this))
        clear hbb HI
        go_wp2_with fail
        go_roundw
        case rel => exact ⟨k + 1, by omega, by simp, HJ.out⟩
        case measure => simp [intOf]; omega
      · obtain rfl : k = n := by omega
        have hdk : decide ((k : Int) < (k : Int)) = false := decide_eq_false (by omega)
        go_wp2_with fail
        go_loopw [68] (fun i wr => ∃ s : Nat, s ≤ k ∧ i = .int .i64 (s : Int) ∧ CL w wr w3 B lo p k ls A1 c1 ∧ w3.heap.size ≤ wr.heap.size) (fun i _ => k - (intOf i).toNat)
        case atStart => exact ⟨0, by omega, rfl, HI.out⟩
        case round =>
          clear HI
          obtain ⟨s, hs, rfl, hI, hsz⟩ := hrel
          have HI := Lib.hid (And.intro hI hsz)
          clear hI hsz
          have HC := Lib.hid (HL0.out wr HI.out.1.agree)
          by_cases hsk : s < k
          · have hds : decide ((s : Int) < (k : Int)) = true := decide_eq_true (by omega)
            go_wp2_with fail
            refine (of_any _ g ls (s : Int) wr HC.out).mono ?_
            rintro e w7 ⟨rfl, m7, hw7⟩
            have hg7 : wr.grownBy w7 none := by rw [hw7]; exact grown_drewN _ _
            have HI7 := Lib.hid (And.intro (HI.out.1.still hg7 HI.out.2) (Nat.le_trans HI.out.2 hg7.size))
            have hx := codeI_pow HC.out.low HC.out.ok (s : Int)
            have hy := lenI_bound HC.out.low (s : Int)
            have hxb : codeI ls (s : Int) < 1000000 := Nat.lt_of_lt_of_le hx (Nat.le_trans (Nat.pow_le_pow_right (by decide) hy) (by decide))
            have cs1 := HI7.out.1.row.sa hsk
            have HST : RowKit.Hid (rowS (codeI ls (s : Int)) (lenI ls (s : Int)) = strAt ls s) := Lib.hid (by rw [codeI_nat, lenI_nat]; rfl)
            obtain ⟨b, o, rfl, hb, c2⟩ := (HRL.out.below HI7.out.1.below).ia hsk
            rw [← lenI_nat] at c2
            generalize strAt ls s = str at cs1 HST
            generalize codeI ls (s : Int) = x at hxb HST ⊢
            generalize lenI ls (s : Int) = y at hy HST c2 ⊢
            have hne : ((y : Int) != (y : Int)) = false := by simp
            have HLR := Lib.hid (fun w => lrow_any x y w hxb (by omega))
            rw [HST.out] at HLR
            have HPL : RowKit.Hid (p < w7.heap.size) := Lib.hid HI7.out.1.row.lt
            clear hg7 hw7 HI HC hx hxb hb HST
            go_wp2_with fail
            go_region_with (go_at_call 13; refine (HLR.out _).mono ?_; rintro e w8 ⟨rfl, hb8⟩; have c3 : w8.cell? ⟨p, s, none⟩ = some (.string str) := (hb8.cell (p := ⟨p, s, none⟩) HPL.out).trans cs1; have HB8 := Lib.hid hb8; clear hb8)
            all_goals
              have hg8 : w7.grownBy w8 none := by
                have h := grown_of_below HB8.out
                exact ⟨h.os, h.tape, h.output, h.size, h.block⟩
              have HF := Lib.hid (And.intro (HI7.out.1.still hg8 HI7.out.2) (Nat.le_trans HI7.out.2 hg8.size))
              clear hg8 HB8 HI7 cs1 c2 c3
              go_wp2_with fail
              go_roundw
              case rel => exact ⟨s + 1, by omega, by simp, HF.out⟩
              case measure => simp [intOf]; omega
          · obtain rfl : s = k := by omega
            have hds : decide ((s : Int) < (s : Int)) = false := decide_eq_false (by omega)
            have hz1 := strAt_none (ls := ls) (i := s) (by rw [HLL.out]; exact Nat.le_refl _)
            go_wp2_with fail
            refine (of_any _ g ls (s : Int) wr HC.out).mono ?_
            rintro e w7 ⟨rfl, m7, hw7⟩
            have hg7 : wr.grownBy w7 none := by rw [hw7]; exact grown_drewN _ _
            have HI7 := Lib.hid (And.intro (HI.out.1.still hg7 HI.out.2) (Nat.le_trans HI.out.2 hg7.size))
            have HC7 := Lib.hid (HL0.out w7 HI7.out.1.agree)
            rw [hz1.1, hz1.2]
            clear hg7 hw7 HI HC hz1
            go_wp2_with fail
            refine (of_any _ g ls (-1) w7 HC7.out).mono ?_
            rintro e w8 ⟨rfl, m8, hw8⟩
            have hg8 : w7.grownBy w8 none := by rw [hw8]; exact grown_drewN _ _
            have HI8 := Lib.hid (And.intro (HI7.out.1.still hg8 HI7.out.2) (Nat.le_trans HI7.out.2 hg8.size))
            have HC8 := Lib.hid (HL0.out w8 HI8.out.1.agree)
            rw [show codeI ls (-1) = 0 from rfl, show lenI ls (-1) = 0 from rfl]
            clear hg8 hw8 HI7 HC7
            go_wp2_with fail
            refine (len_any _ g ls w8 HC8.out).mono ?_
            rintro e w9 ⟨rfl, rfl⟩
            rw [HLL.out]
            have heq : ((s : Int) == (s : Int)) = true := by simp
            go_wp2_with fail
            go_ret
            exact ⟨rfl, HI8.out.1.below⟩
  · obtain rfl := hno hz
    have HZ := Lib.hid hz
    obtain ⟨E, hE⟩ : ∃ E, newE L lone = E := ⟨_, rfl⟩
    have HK := Lib.hid hE
    rw [hE]
    have h2 : ((E : Int) != 0) = true := by rw [bne_iff_ne]; omega
    have h1 : ((E : Int) != (E : Int)) = false := by simp
    clear hno hyes hhl hz hE
    go_wp2_with fail
    refine (rcodes_any A n c L lone w3 HR3.out (by omega)).mono ?_
    rintro e w4 ⟨hb4, hno, _⟩
    obtain rfl := hno HZ.out
    have HB4 := Lib.hid (HB3.out.trans (hb4.mono HB3.out.size))
    have HO4 : RowKit.Hid (OwnI w4 B (.slice A1 n c1) L) := Lib.hid (by
      have h1 := World.ownsRow.kept HO2.out (grown_of_below HB23.out) (ne_none _)
      exact World.ownsRow.kept h1 (grown_of_below hb4) (ne_none _))
    have HR4 := Lib.hid (HR.out.next HB4.out)
    clear hb4 hno HR3 HB3 HB23 HO2
    rw [HK.out]
    go_wp2_with fail
    refine (ints_same A1 n c1 A n c L w4 HO4.out.rd.2 HR4.out (by omega)).mono ?_
    rintro e w5 ⟨rfl, m5, hw5⟩
    have hg5 : w4.grownBy w5 none := by rw [hw5]; exact grown_drewN _ _
    have HB5 := Lib.hid (HB4.out.grown hg5 HB4.out.size (fun _ h => by cases h))
    clear hg5 hw5 HO4 HR4 HB4
    go_wp2_with fail
    refine (num_any E w5).mono ?_
    rintro e w6 ⟨rfl, rfl⟩
    go_wp2_with fail
    go_ret
    exact ⟨rfl, HB5.out⟩
theorem codes_all (A : Option Addr) (n c : Nat) (L : List Int) (lone : Bool) (w : World) (hr : Rd w w.heap.size A n (is L)) (hA : A = none → c = 0) :
    Calls Try.prog 3 #[.slice A n c, .bool lone] w fun e w' => e = .returned (.bool true) ∧ Below w.heap.size w w' := by
  rcases Nat.lt_or_ge 330 n with h | h
  · exact codes_long A n c lone w h
  · exact codes_any A n c L lone w hr hA h
end Go.Proofs.Ytfkbaagigdjbpaa
