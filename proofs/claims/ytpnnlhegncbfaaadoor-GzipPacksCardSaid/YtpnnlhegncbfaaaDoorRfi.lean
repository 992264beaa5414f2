
/- The reference's Fixed. -/
import Derived.Test.YtpnnlhegncbfaaaDoorGroupZ
import Derived.Test.YtpnnlhegncbfaaaDoorRld
import Derived.Test.YtpnnlhegncbfaaaDoorRtt
import Derived.Test.YtpnnlhegncbfaaaDoorGroupV
namespace Go.Proofs.YtpnnlhegncbfaaaDoor
set_option maxRecDepth 20000
open Go.RowKit

theorem nats_A : nats (ints64 fixA) = fixA ∧ (ints64 fixA).length = 288 := by decide +kernel
theorem nats_B : nats (ints64 fixB) = fixB ∧ (ints64 fixB).length = 32 := by decide +kernel
/-- What Fixed's loop keeps. -/
structure FX (w wr : World) (pa pb : Nat) (A : Option Addr) (m : Nat) (D : List Tk) (u : Value) (M : List UInt8) : Prop where
  own : Own wr w.heap.size u M
  below : Below w.heap.size w wr
  ra : Row wr pa (sa (strAt fixA) 288) 9
  rb : Row wr pb (sa (strAt fixB) 32) 9
  na : ∀ k, u.ownBlock = some k → k ≠ pa
  nb : ∀ k, u.ownBlock = some k → k ≠ pb
  toks : RdT wr wr.heap.size A m D
  ap : ∀ g o, A = some ⟨g, o, none⟩ → g < wr.heap.size ∧ ∀ k, u.ownBlock = some k → k ≠ g
theorem fresh_not {w : World} {v v' : Value} (h : Fresh w v v') {g : Nat} (hg : g < w.heap.size) (hv : ∀ k, v.ownBlock = some k → k ≠ g) : ∀ k, v'.ownBlock = some k → k ≠ g := fun k hk e => by
  subst e
  exact h.not hg (fun e => hv _ e rfl) hk
theorem FX.step {w wr w' : World} {pa pb : Nat} {A : Option Addr} {m : Nat} {D : List Tk} {u u' : Value} {M M' : List UInt8} (h : FX w wr pa pb A m D u M) (hA : AP wr w' w.heap.size u u' M') : FX w w' pa pb A m D u' M' :=
  ⟨hA.own, h.below.grown hA.gr h.below.size (fun k hk => (World.ownsRow.lt h.own k hk).1),
    h.ra.grown hA.gr (fun e => h.na _ e.symm rfl), h.rb.grown hA.gr (fun e => h.nb _ e.symm rfl), fresh_not hA.fr h.ra.lt h.na, fresh_not hA.fr h.rb.lt h.nb,
    ⟨h.toks.1, fun h0 => by
      obtain ⟨g, o, hg, hlt, hc⟩ := h.toks.2 h0
      obtain ⟨h1, h2⟩ := h.ap g o hg
      exact ⟨g, o, hg, Nat.lt_of_lt_of_le hlt hA.gr.size, fun i x hx j v hv => (World.cell?_of_block (w := wr) (a := ⟨g, o + (i * 3 + j), none⟩) (hA.gr.block g h1 (fun e => h2 _ e.symm rfl))).trans (hc i x hx j v hv)⟩⟩,
    fun g o hg => ⟨Nat.lt_of_lt_of_le (h.ap g o hg).1 hA.gr.size, fresh_not hA.fr (h.ap g o hg).1 (h.ap g o hg).2⟩⟩
theorem FX.grow {w wr w' : World} {pa pb : Nat} {A : Option Addr} {m : Nat} {D : List Tk} {u : Value} {M : List UInt8} (h : FX w wr pa pb A m D u M) (hg : wr.grownBy w' none) : FX w w' pa pb A m D u M :=
  h.step ⟨World.ownsRow.kept h.own hg (ne_noneT u), ⟨hg.os, hg.tape, hg.output, hg.size, fun k hk _ => hg.block k hk (by simp)⟩, Fresh.same _ _⟩
theorem bin_tokB (t : Tk) : Bin (tokB t) := by
  unfold tokB
  split
  · exact bin_bitsO _ _
  · refine Bin.append ?_ ?_
    · unfold lenB
      split
      · exact bin_bitsO _ _
      · exact (bin_bitsO _ _).append (bin_lowB _ _)
    · unfold distB
      exact (bin_bitsO _ _).append (bin_lowB _ _)
theorem bin_flat : ∀ D : List Tk, Bin (D.flatMap tokB)
  | [] => bin_lowB 0 0
  | t :: D => by rw [List.flatMap_cons]; exact (bin_tokB t).append (bin_flat D)
theorem more_small : ∀ s : Nat, s < 286 → lenMore s ≤ 20 := by decide +kernel
theorem len_letter (L : Nat) (h1 : 3 ≤ L) (h2 : L ≤ 258) : ∃ S, 257 ≤ S ∧ S ≤ 285 ∧ lenBase S ≤ L ∧ lenMore S ≤ 20 ∧ lenB L = bitsO fixA (S : Nat) ++ lowB (L - lenBase S) (lenMore S) ∧ ∀ s, S < s → s ≤ 285 → L < lenBase s := by
  by_cases h : L = 258
  · subst h
    refine ⟨285, by decide, by decide, by rw [len_258.1]; decide, by rw [len_258.2]; decide, ?_, fun s h1 h2 => by omega⟩
    rw [len_258.1, len_258.2]
    unfold lenB
    rw [if_pos rfl]
    simp [lowB]
  · obtain ⟨a, b, c, d, e⟩ := len_tells L (by omega) h1
    refine ⟨sgn 257 (L - 3) 2, a, by omega, c, more_small _ (by omega), ?_, fun s h3 h4 => len_last L (by omega) h1 s (by omega) h3⟩
    unfold lenB
    rw [if_neg h, d, e]
theorem dist_letter (D : Nat) (h1 : 1 ≤ D) (h2 : D ≤ 32768) : ∃ S, S ≤ 29 ∧ distSum S ≤ D ∧ distMore S ≤ 20 ∧ distB D = bitsO fixB (S : Nat) ++ lowB (D - distSum S) (distMore S) ∧ ∀ s, S < s → s ≤ 29 → D < distSum s := by
  obtain ⟨a, b, c, d, e, f⟩ := dist_tells (x := D - 1) (by omega)
  rw [show D - 1 + 1 = D by omega] at b c f
  exact ⟨sgn 0 (D - 1) 1, a, b, by omega, by unfold distB; rw [c, d], f⟩
set_option maxHeartbeats 4000000 in
set_option maxRecDepth 10000 in
theorem rfix_any (A : Option Addr) (n c : Nat) (l : List UInt8) (w : World) (hr : Rd w w.heap.size A n (us l)) (hn : n ≤ 1000) :
    Calls Tryd.prog 43 #[.slice A n c] w fun e w' => ∃ v, e = .returned v ∧ Own w' w.heap.size v (textB (fixedM l)) ∧ Below w.heap.size w w' := by
  have HL : RowKit.Hid (l.length = n) := Lib.hid (by have := hr.1; rwa [us_length] at this)
  obtain ⟨X, HX⟩ : ∃ X, RowKit.Hid (fixedM l = X) := ⟨_, Lib.hid rfl⟩
  rw [HX.out]
  have HR := Lib.hid hr
  clear hr
  go_enter Tryd.func43, Tryd.ntmps43
  go_wp2_with fail
  refine (rfixed_any w).mono ?_
  rintro e w2 ⟨p, q, rfl, hp, hq, hb2, hp2, hq2, hpq⟩
  have HO2 := Lib.hid (hq.ownI (B := w.heap.size) (n := 30) is_fixB (by decide) (by decide) hq2)
  have HA2 : RowKit.Hid (Rd w2 w2.heap.size (some ⟨p, 0, none⟩) 288 (is (ints64 fixA))) := Lib.hid (by rw [is_fixA]; exact hp.rdI hp.lt)
  have HB2 := Lib.hid hb2
  clear hp hq hb2 hp2 hq2 hpq
  go_wp2_with fail
  refine (rcodes_any (some ⟨p, 0, none⟩) 288 288 (ints64 fixA) false w2 HA2.out (by decide)).mono ?_
  rintro e w3 ⟨hb3, _, hk3⟩
  obtain ⟨pa, rfl, hpa, hra⟩ := hk3 newA
  rw [nats_A.2, nats_A.1] at hra
  rw [nats_A.2]
  have HRA3 := Lib.hid hra
  have HPA : RowKit.Hid (w2.heap.size ≤ pa ∧ q < w2.heap.size) := Lib.hid ⟨hpa, (World.ownsRow.lt HO2.out q rfl).2⟩
  have HO3 : RowKit.Hid (OwnI w3 w.heap.size (.slice (some ⟨q, 0, none⟩) 30 30) (List.replicate 30 5)) := Lib.hid (World.ownsRow.kept HO2.out (grown_of_below hb3) (ne_noneT _))
  have HB3 := Lib.hid (HB2.out.trans (hb3.mono HB2.out.size))
  clear hb3 hk3 hpa hra HO2 HA2 HB2
  have HQ3 : RowKit.Hid (w.heap.size ≤ w3.heap.size ∧ pa ≠ q) := Lib.hid ⟨HB3.out.size, fun e => by
    have h2 := HPA.out
    omega⟩
  go_wp2_with (at_builtin; refine pushI w3 rfl (.tmp 28) (.tmp 29) rfl w.heap.size _ (List.replicate 30 5) [5, 5] _ 2 rfl rfl HO3.out rfl rfl HQ3.out.1 (by decide) ?_)
  intro v4 w4 ho4 hg4 hf4
  have hq4 : ∀ b, (Value.slice (some ⟨q, 0, none⟩) 30 30).ownBlock = some b → q = b := fun b hb => by injection hb
  have HRA4 := Lib.hid (HRA3.out.grown hg4 (fun e => HQ3.out.2 (hq4 _ e.symm).symm))
  have HB4 := Lib.hid (HB3.out.grown hg4 HQ3.out.1 (fun b hb => (World.ownsRow.lt HO3.out b hb).1))
  obtain ⟨A4, c4, hv4⟩ := ho4.slice
  have hv4 : v4 = .slice A4 32 c4 := hv4
  subst hv4
  have HD4 : RowKit.Hid (Rd w4 w4.heap.size A4 32 (is (ints64 fixB))) := Lib.hid (by rw [fixB_ints]; exact ho4.rd.2)
  clear ho4 hg4 hf4 hq4 HRA3 HB3 HO3 HQ3
  go_wp2_with fail
  refine (rcodes_any A4 32 c4 (ints64 fixB) false w4 HD4.out (by decide)).mono ?_
  rintro e w5 ⟨hb5, _, hk5⟩
  obtain ⟨pb, rfl, hpb, hrb⟩ := hk5 newB
  rw [nats_B.2, nats_B.1] at hrb
  rw [nats_B.2]
  have hg6 := World.grownBy_alloc w5 (.cells #[.int .u8 1, .int .u8 1, .int .u8 0] 5) none
  have HF6 : RowKit.Hid (Below w.heap.size w (w5.alloc (.cells #[.int .u8 1, .int .u8 1, .int .u8 0] 5)) ∧ Row (w5.alloc (.cells #[.int .u8 1, .int .u8 1, .int .u8 0] 5)) pa (sa (strAt fixA) 288) 9 ∧ Row (w5.alloc (.cells #[.int .u8 1, .int .u8 1, .int .u8 0] 5)) pb (sa (strAt fixB) 32) 9
      ∧ Own (w5.alloc (.cells #[.int .u8 1, .int .u8 1, .int .u8 0] 5)) w5.heap.size (.slice (some ⟨w5.heap.size, 0, none⟩) 3 3) [1, 1, 0] ∧ pa < w5.heap.size ∧ pb < w5.heap.size ∧ w.heap.size ≤ w5.heap.size) := Lib.hid (by
    have h5 := HB4.out.trans (hb5.mono HB4.out.size)
    have ra5 := HRA4.out.grown (grown_of_below hb5) (by simp)
    exact ⟨h5.trans ((below_make hg6).mono h5.size), ra5.grown hg6 (by simp), hrb.grown hg6 (by simp), Own.lit w5 _ [1, 1, 0] 3 rfl rfl (by decide), ra5.lt, hrb.lt, h5.size⟩)
  have HD6 : RowKit.Hid (Rd (w5.alloc (.cells #[.int .u8 1, .int .u8 1, .int .u8 0] 5)) (w5.alloc (.cells #[.int .u8 1, .int .u8 1, .int .u8 0] 5)).heap.size A n (us l)) := Lib.hid (HR.out.next HF6.out.1)
  clear hb5 hk5 hpb hrb hg6 HRA4 HB4 HD4 HPA
  go_wp2_with fail
  generalize w5.alloc (.cells #[.int .u8 1, .int .u8 1, .int .u8 0] 5) = w6 at HF6 HD6 ⊢
  refine (rtokens_any A n c l w6 HD6.out (by omega)).mono ?_
  rintro e w7 ⟨v7, rfl, ho7, hb7⟩
  obtain ⟨h1, h2, h3, h4, h5, h6, h7⟩ := HF6.out
  have hw6 := (World.ownsRow.lt h4 w5.heap.size rfl).2
  have hpl := fun A m c (e : v7 = .slice A m c) => (show OwnT 105 w7 w6.heap.size (.slice A m c) (toksT l) from e ▸ ho7).place
  obtain ⟨A7, c7, rfl, hz7, hd7⟩ := ho7.rd
  have hq5 : ∀ b, (Value.slice (some ⟨w5.heap.size, 0, none⟩) 3 3).ownBlock = some b → w5.heap.size = b := fun b hb => by injection hb
  have HI7 : RowKit.Hid (FX w w7 pa pb A7 (toksT l).length (toksT l) (.slice (some ⟨w5.heap.size, 0, none⟩) 3 3) [1, 1, 0]) := Lib.hid (by
    have hg7 := grown_of_below hb7
    refine ⟨own_mono (World.ownsRow.kept h4 hg7 (ne_noneT _)) h7, h1.trans (hb7.mono h1.size), h2.grown hg7 (by simp), h3.grown hg7 (by simp), fun k hk => by have := hq5 k hk; omega, fun k hk => by have := hq5 k hk; omega, hd7, fun g o hA => ?_⟩
    have := hpl A7 _ c7 rfl g o hA
    exact ⟨this.2, fun k hk => by have := hq5 k hk; omega⟩)
  have HT7 : RowKit.Hid ((toksT l).length ≤ n ∧ ∀ t ∈ toksT l, goodT t) := Lib.hid ⟨by have := toks_len l l.length 0; have := HL.out; unfold toksT; omega, toks_good l _ _⟩
  have HX2 : RowKit.Hid ([1, 1, 0] ++ (toksT l).flatMap tokB ++ bitsO fixA (256 : Nat) = X) := Lib.hid HX.out
  have hm : (toksT l).length ≤ n := HT7.out.1
  generalize hD : toksT l = D at HI7 HT7 HX2 hm ⊢
  generalize hDl : D.length = m at HI7 hm ⊢
  have HDL := Lib.hid hDl
  clear hq5 h1 h2 h3 h4 h5 h6 h7 hw6 hpl hz7 hd7 ho7 hb7 HX hD hDl HF6 HD6
  go_wp2_with fail
  generalize w5.heap.size = G5 at HI7 ⊢
  go_loopw [9, 38] (fun u i wr => ∃ k : Nat, i = .int .i64 (k : Int) ∧ k ≤ m ∧ FX w wr pa pb A7 m D u ([1, 1, 0] ++ (D.take k).flatMap tokB)) (fun _ i _ => m - (intOf i).toNat)
  case atStart => exact ⟨0, rfl, Nat.zero_le _, HI7.out⟩
  case round =>
    clear HI7
    obtain ⟨k, rfl, hk, hI⟩ := hrel
    have HI := Lib.hid hI
    have HLM : RowKit.Hid (([1, 1, 0] ++ (D.take k).flatMap tokB : List UInt8).length ≤ 80003) := Lib.hid (by
      have h1 := flat_length (D.take k)
      have h2 : (D.take k).length ≤ 1000 := by rw [List.length_take]; have := HDL.out; omega
      rw [List.length_append]
      simp only [List.length_cons, List.length_nil]
      omega)
    have HBW : RowKit.Hid (w.heap.size ≤ wr.heap.size) := Lib.hid hI.below.size
    clear hI
    by_cases hlt : k < m
    · have d1 : decide ((k : Int) < (m : Int)) = true := decide_eq_true (by omega)
      obtain ⟨g, oo, t, hA, hg, ha, c0, c1, c2⟩ := HI.out.toks.cells hlt
      subst hA
      have HT : RowKit.Hid (D[k]? = some t ∧ goodT t) := Lib.hid ⟨ha, HT7.out.2 t (List.mem_of_getElem? ha)⟩
      have HM2 : RowKit.Hid ([1, 1, 0] ++ (D.take k).flatMap tokB ++ tokB t = [1, 1, 0] ++ (D.take (k + 1)).flatMap tokB) := Lib.hid (by rw [List.take_add_one, ha]; simp)
      generalize [1, 1, 0] ++ (D.take k).flatMap tokB = M at HI HLM HM2
      have hg1 := World.grownBy_alloc wr (.cells #[U8 t.b, .int .i64 t.l, .int .i64 t.d] 105) none
      have HI1 := Lib.hid (HI.out.grow hg1)
      have hrt : Row (wr.alloc (.cells #[U8 t.b, .int .i64 t.l, .int .i64 t.d] 105)) wr.heap.size #[U8 t.b, .int .i64 t.l, .int .i64 t.d] 105 := heap_alloc_new wr _
      have HRT := Lib.hid hrt
      have HB1 : RowKit.Hid (w.heap.size ≤ (wr.alloc (.cells #[U8 t.b, .int .i64 t.l, .int .i64 t.d] 105)).heap.size) := Lib.hid (Nat.le_trans HBW.out hg1.size)
      have HAPG : RowKit.Hid (∀ b, u9.ownBlock = some b → b ≠ wr.heap.size) := Lib.hid (fun b hb => by have := (World.ownsRow.lt HI.out.own b hb).2; omega)
      have q0 : (wr.alloc (.cells #[U8 t.b, .int .i64 t.l, .int .i64 t.d] 105)).cell? ⟨wr.heap.size, 0, none⟩ = some (.int .u8 (t.b.toNat : Int)) := hrt.cell 0
      have q1 : (wr.alloc (.cells #[U8 t.b, .int .i64 t.l, .int .i64 t.d] 105)).cell? ⟨wr.heap.size, 1, none⟩ = some (.int .i64 t.l) := hrt.cell 1
      have q2 : (wr.alloc (.cells #[U8 t.b, .int .i64 t.l, .int .i64 t.d] 105)).cell? ⟨wr.heap.size, 2, none⟩ = some (.int .i64 t.d) := hrt.cell 2
      obtain ⟨Au, cu, hu⟩ := HI.out.own.slice
      clear ha hg hg1 hrt
      by_cases hl0 : t.l = 0
      · have d2 : (t.l == 0) = true := by rw [hl0]; rfl
        have hb288 : t.b.toNat < 288 := by have := t.b.toNat_lt; omega
        have HTB : RowKit.Hid (tokB t = bitsO fixA (t.b.toNat : Nat)) := Lib.hid (by unfold tokB; rw [if_pos hl0])
        have r0 : (wr.alloc (.cells #[U8 t.b, .int .i64 t.l, .int .i64 t.d] 105)).cell? ⟨pa, t.b.toNat, none⟩ = some (.string (strB (bitsO fixA (t.b.toNat : Nat)))) := by rw [← strAt_B]; exact HI1.out.ra.sa hb288
        have HBL : RowKit.Hid ((bitsO fixA (t.b.toNat : Nat)).length ≤ 100) := Lib.hid (by rw [← HTB.out]; have := tokB_length t; omega)
        clear hl0
        subst hu
        generalize M.length = ml at HI HI1 HAPG ⊢
        go_wp2_with fail
        refine (rcode_any w.heap.size _ M (bitsO fixA (t.b.toNat : Nat)) _ HI1.out.own HB1.out (bin_bitsO _ _) (by have := HLM.out; have := HBL.out; omega)).mono ?_
        rintro e w3 ⟨v3, rfl, hA3⟩
        have hI3 := HI1.out.step hA3
        rw [← HTB.out, HM2.out] at hI3
        have HI3 := Lib.hid hI3
        clear hA3 hI3 q0 q1 q2 r0 c0 c1 c2
        go_wp2_with fail
        go_roundw
        case rel => exact ⟨k + 1, rfl, by omega, HI3.out⟩
        case measure => simp [intOf]; omega
      · have d2 : (t.l == 0) = false := by rw [beq_eq_false_iff_ne]; exact hl0
        obtain ⟨L, hL⟩ : ∃ L : Nat, t.l = (L : Int) := ⟨t.l.toNat, by have := HT.out.2; unfold goodT at this; omega⟩
        obtain ⟨Dd, hDd⟩ : ∃ Dd : Nat, t.d = (Dd : Int) := ⟨t.d.toNat, by have := HT.out.2; unfold goodT at this; omega⟩
        have hg3 : 3 ≤ L ∧ L ≤ 258 ∧ 1 ≤ Dd ∧ Dd ≤ 32768 := by have := HT.out.2; unfold goodT at this; omega
        obtain ⟨S, hs1, hs2, hs3, hs4, hs5, hs6⟩ := len_letter L hg3.1 hg3.2.1
        obtain ⟨S', hp1, hp2, hp3, hp4, hp5⟩ := dist_letter Dd hg3.2.2.1 hg3.2.2.2
        have HTB : RowKit.Hid (tokB t = bitsO fixA (S : Nat) ++ lowB (L - lenBase S) (lenMore S) ++ (bitsO fixB (S' : Nat) ++ lowB (Dd - distSum S') (distMore S'))) := Lib.hid (by
          unfold tokB
          rw [if_neg hl0, hL, hDd]
          show lenB L ++ distB Dd = _
          rw [hs5, hp4])
        have HLE := Lib.hid (And.intro hs2 (And.intro hs3 (And.intro hs4 hs6)))
        have HDI := Lib.hid (And.intro hp1 (And.intro hp2 (And.intro hp3 hp5)))
        have HS1 := Lib.hid (And.intro hs1 hg3)
        replace q1 : (wr.alloc (.cells #[U8 t.b, .int .i64 t.l, .int .i64 t.d] 105)).cell? ⟨wr.heap.size, 1, none⟩ = some (.int .i64 (L : Int)) := q1.trans (by rw [hL])
        replace q2 : (wr.alloc (.cells #[U8 t.b, .int .i64 t.l, .int .i64 t.d] 105)).cell? ⟨wr.heap.size, 2, none⟩ = some (.int .i64 (Dd : Int)) := q2.trans (by rw [hDd])
        rw [hL] at d2
        subst hu
        generalize M.length = ml at HI HI1 HAPG ⊢
        clear hl0 hL hDd hs1 hs2 hs3 hs4 hs5 hs6 hp1 hp2 hp3 hp4 hp5 hg3
        go_wp2_with fail
        generalize wr.alloc (.cells #[.int .u8 (t.b.toNat : Int), .int .i64 t.l, .int .i64 t.d] 105) = wo at HI1 HRT HB1 q0 q1 q2 ⊢
        generalize wr.heap.size = G at HRT HAPG q0 q1 q2 ⊢
        clear HI HBW c0 c1 c2
        go_loopw [9, 12] (fun u i wq => u = .slice Au ml cu ∧ ∃ s : Nat, i = .int .i64 (s : Int) ∧ S ≤ s ∧ s ≤ 285 ∧ wq = wo) (fun _ i _ => (intOf i).toNat)
        case atStart => exact ⟨rfl, 285, rfl, HLE.out.1, by decide, rfl⟩
        case round =>
          obtain ⟨rfl, s, rfl, hs, hs285, rfl⟩ := hrel
          have d3 : decide ((257 : Int) ≤ (s : Int)) = true := decide_eq_true (by have := HS1.out.1; omega)
          by_cases hsS : S < s
          · have h4 : ¬ lenBase s ≤ L := by have := HLE.out.2.2.2 s hsS hs285; omega
            have d4 : decide (lenBase s ≤ L) = false := decide_eq_false h4
            have HRL := Lib.hid (fun w => rlen_any s (by have := HS1.out.1; omega) hs285 w)
            go_wp2_with fail
            refine (HRL.out _).mono ?_
            rintro e w3 ⟨rfl, rfl⟩
            go_wp2_with fail
            go_roundw
            case rel => exact ⟨rfl, s - 1, by congr 1; omega, by omega, by omega, trivial⟩
            case measure => simp [intOf]; omega
          · have hss : s = S := by omega
            subst hss
            have h4 : lenBase s ≤ L := HLE.out.2.1
            have d4 : decide (lenBase s ≤ L) = true := decide_eq_true h4
            have HRL := Lib.hid (fun w => rlen_any s (by have := HS1.out.1; omega) hs285 w)
            go_wp2_with fail
            refine (HRL.out _).mono ?_
            rintro e w3 ⟨rfl, rfl⟩
            go_wp2_with fail
            refine wp_region_any (by kernel_rfl) ?_
            change wpAny _ _ _ _ _ _ _ (World.drew _)
            have HI4 : RowKit.Hid (FX w w3.drew pa pb (some ⟨g, oo, none⟩) m D (.slice Au ml cu) M) := Lib.hid (HI1.out.grow (grown_drewN w3 1))
            have HRT4 : RowKit.Hid (Row w3.drew G #[U8 t.b, .int .i64 t.l, .int .i64 t.d] 105) := Lib.hid (HRT.out.grown (grown_drewN w3 1) (by simp))
            have HB4 : RowKit.Hid (w.heap.size ≤ w3.drew.heap.size) := Lib.hid (Nat.le_trans HB1.out (grown_drewN w3 1).size)
            have HAP4 := Lib.hid HAPG.out
            have HV5 : RowKit.Hid ((#[U8 t.b, .int .i64 t.l, .int .i64 t.d] : Array Value)[1]? = some (.int .i64 (L : Int))) := Lib.hid (by rw [← HRT.out.cell 1]; exact q1)
            have HV8 : RowKit.Hid ((#[U8 t.b, .int .i64 t.l, .int .i64 t.d] : Array Value)[2]? = some (.int .i64 (Dd : Int))) := Lib.hid (by rw [← HRT.out.cell 2]; exact q2)
            have HML5 : RowKit.Hid (M.length + (bitsO fixA (s : Nat)).length ≤ 80203 ∧ lenMore s ≤ 20) := Lib.hid (by
              have := HLM.out
              have := tokB_length t
              rw [HTB.out] at this
              simp only [List.length_append] at this
              exact ⟨by omega, HLE.out.2.2.1⟩)
            replace HML5 : RowKit.Hid (M.length + (bitsO fixA (s : Nat)).length ≤ 80203) := Lib.hid HML5.out.1
            have hmore := HLE.out.2.2.1
            have hL258 : L ≤ 258 := HS1.out.2.2.1
            have h288 : s < 288 := by omega
            have h288i : (s : Int) < 288 := by omega
            have e1 : (L : Int) - (lenBase s : Int) = ((L - lenBase s : Nat) : Int) := by omega
            have e2 : IntKind.i64.wrap ((L - lenBase s : Nat) : Int) = ((L - lenBase s : Nat) : Int) := wrap64_inT _ (by omega) (by omega)
            clear q0 q1 q2 HI1 HRT HB1 HAPG
            generalize w3.drew = w4 at HI4 HRT4 HB4 ⊢
            have q1 : w4.cell? ⟨G, 1, none⟩ = some (.int .i64 (L : Int)) := by rw [HRT4.out.cell 1]; exact HV5.out
            have r0 : w4.cell? ⟨pa, s, none⟩ = some (.string (strB (bitsO fixA (s : Nat)))) := by rw [← strAt_B]; exact HI4.out.ra.sa h288
            refine wpAny_take (i := 0) (v := ?_) rfl (by kernel_rfl) (by kernel_rfl) (by kernel_rfl) (fun _ _ _ h => h) (Or.inl ⟨by rfl, ?_⟩) ?_
            rotate_left
            · intro w
              go_simp
              try with_reducible rfl
            refine wpAny_take (i := 1) (v := ?_) rfl (by kernel_rfl) (by kernel_rfl) (by kernel_rfl) (fun _ _ _ h => h) (Or.inl ⟨by rfl, ?_⟩) ?_
            rotate_left
            · intro w
              go_simp
              try with_reducible rfl
            refine wpAny_take (i := 2) (v := ?_) rfl (by kernel_rfl) (by kernel_rfl) (by kernel_rfl) (fun _ _ _ h => h) (Or.inl ⟨by rfl, ?_⟩) ?_
            rotate_left
            · intro w
              go_simp
              try with_reducible rfl
            refine wpAny_take (i := 3) (v := ?_) rfl (by kernel_rfl) (by kernel_rfl) (by kernel_rfl) (fun _ _ _ h => h) (Or.inl ⟨by rfl, ?_⟩) ?_
            rotate_left
            · intro w
              go_simp
              try with_reducible rfl
            refine wpAny_take (i := 6) (v := ?_) rfl (by kernel_rfl) (by kernel_rfl) (by kernel_rfl) (fun _ _ _ h => h) (Or.inl ⟨by rfl, ?_⟩) ?_
            rotate_left
            · intro w
              go_simp
              try with_reducible rfl
            refine wpAny_take (i := 8) (v := ?_) rfl (by kernel_rfl) (by kernel_rfl) (by kernel_rfl) (fun _ _ _ h => h) (Or.inl ⟨by rfl, ?_⟩) ?_
            rotate_left
            · intro w
              go_simp
              try with_reducible rfl
            refine wpAny_take (i := 10) (v := ?_) rfl (by kernel_rfl) (by kernel_rfl) (by kernel_rfl) (fun _ _ _ h => h) (Or.inl ⟨by rfl, ?_⟩) ?_
            rotate_left
            · intro w
              go_simp
              try with_reducible rfl
            refine wpAny_ready (rs := [4, 7]) (by kernel_rfl) (by simp) ?_
            refine AllReady.cons rfl (fun K hK => ?_) (AllReady.cons rfl (fun K hK => ?_) AllReady.nil)
            · go_simp
              refine hK _ _ ?_
              clear hK K
              refine wpAny_ready (rs := [5, 7]) (by kernel_rfl) (by simp) ?_
              refine AllReady.cons rfl (fun K hK => ?_) (AllReady.cons rfl (fun K hK => ?_) AllReady.nil)
              · go_simp
                go_wp2_with fail
                refine (rcode_any w.heap.size _ M (bitsO fixA (s : Nat)) _ HI4.out.own HB4.out (bin_bitsO _ _) (by have := HML5.out; omega)).mono ?_
                rintro e w5 ⟨v5, rfl, hA5⟩
                have HI5 := Lib.hid (HI4.out.step hA5)
                have HRT5 := Lib.hid (HRT4.out.grown hA5.gr (fun e => HAP4.out _ e.symm rfl))
                have HAP5 := Lib.hid (fresh_not hA5.fr HRT4.out.lt HAP4.out)
                have HB5 : RowKit.Hid (w.heap.size ≤ w5.heap.size) := Lib.hid (Nat.le_trans HB4.out hA5.gr.size)
                have q1 : w5.cell? ⟨G, 1, none⟩ = some (.int .i64 (L : Int)) := by rw [HRT5.out.cell 1]; exact HV5.out
                clear hA5
                go_simp
                refine hK _ _ ?_
                clear hK K
                refine wpAny_ready (rs := [7]) (by kernel_rfl) (by simp) ?_
                refine AllReady.cons rfl (fun K hK => ?_) AllReady.nil
                go_simp
                refine hK _ _ ?_
                clear hK K
                refine wpAny_take (i := 9) (v := ?_) rfl (by kernel_rfl) (by kernel_rfl) (by kernel_rfl) (fun _ _ _ h => h) (Or.inl ⟨by rfl, ?_⟩) ?_
                rotate_left
                · intro w
                  go_simp
                  try with_reducible rfl
                refine wpAny_ready (rs := [11]) (by kernel_rfl) (by simp) ?_
                refine AllReady.cons rfl (fun K hK => ?_) AllReady.nil
                go_simp
                go_wp2_with fail
                refine (rput_any w.heap.size _ _ (L - lenBase s) (lenMore s) _ HI5.out.own HB5.out (by omega) (by omega) (by have := HML5.out; simp only [List.length_append]; omega)).mono ?_
                rintro e w6 ⟨v6, rfl, hA6⟩
                have HI6 := Lib.hid (HI5.out.step hA6)
                have HRT6 := Lib.hid (HRT5.out.grown hA6.gr (fun e => HAP5.out _ e.symm rfl))
                have HAP6 := Lib.hid (fresh_not hA6.fr HRT5.out.lt HAP5.out)
                have HB6 : RowKit.Hid (w.heap.size ≤ w6.heap.size) := Lib.hid (Nat.le_trans HB5.out hA6.gr.size)
                clear hA6 q1
                go_simp
                refine hK _ _ ?_
                clear hK K
                refine wpAny_take (i := 12) (v := ?_) rfl (by kernel_rfl) (by kernel_rfl) (by kernel_rfl) (fun _ _ _ h => h) (Or.inl ⟨by rfl, ?_⟩) ?_
                rotate_left
                · intro w
                  go_simp
                  try with_reducible rfl
                refine wpAny_done (by kernel_rfl) ?_ _
                obtain ⟨M2, hM2⟩ : ∃ M2, M ++ bitsO fixA (s : Nat) ++ lowB (L - lenBase s) (lenMore s) = M2 := ⟨_, rfl⟩
                rw [hM2] at HI6
                have hM3 : M2 ++ bitsO fixB (S' : Nat) ++ lowB (Dd - distSum S') (distMore S') = [1, 1, 0] ++ (D.take (k + 1)).flatMap tokB := by
                  rw [← hM2, ← HM2.out, HTB.out]; simp only [List.append_assoc]
                have hML8 : M2.length + (bitsO fixB (S' : Nat)).length ≤ 80403 := by
                  have h1 := HLM.out
                  have h2 := tokB_length t
                  rw [HTB.out] at h2
                  rw [← hM2]
                  simp only [List.length_append] at h2 ⊢
                  omega
                have HM3 := Lib.hid hM3
                have HML8 := Lib.hid hML8
                obtain ⟨A6, c6, hv6⟩ := HI6.out.own.slice
                generalize hml2 : M2.length = ml2 at hv6
                subst hv6
                clear hM2 hM3 hML8 hml2 HI4 HRT4 HB4 HAP4 HI5 HRT5 HB5 HAP5 HML5 e1 e2 r0 h288 h288i h4 d4 hmore hs hsS hs285 d3 HRL
                go_wp2_with fail
                go_loopw [9, 15] (fun u i wq => u = .slice A6 ml2 c6 ∧ ∃ y : Nat, i = .int .i64 (y : Int) ∧ S' ≤ y ∧ y ≤ 29 ∧ wq = w6) (fun _ i _ => (intOf i).toNat)
                case atStart => exact ⟨rfl, 29, rfl, HDI.out.1, by decide, rfl⟩
                case round =>
                  obtain ⟨rfl, y, rfl, hy, hy29, rfl⟩ := hrel
                  have d3 : decide ((0 : Int) ≤ (y : Int)) = true := decide_eq_true (by omega)
                  by_cases hyS : S' < y
                  · have h4 : ¬ distSum y ≤ Dd := by have := HDI.out.2.2.2 y hyS hy29; omega
                    have d4 : decide (distSum y ≤ Dd) = false := decide_eq_false h4
                    have HRD := Lib.hid (fun w => rdist_any y hy29 w)
                    have q2 := HRT6.out.cell 2
                    rw [HV8.out] at q2
                    go_wp2_with fail
                    refine (HRD.out _).mono ?_
                    rintro e wx ⟨rfl, rfl⟩
                    go_wp2_with fail
                    go_roundw
                    case rel => exact ⟨rfl, y - 1, by congr 1; omega, by omega, by omega, trivial⟩
                    case measure => simp [intOf]; omega
                  · have hyy : y = S' := by omega
                    subst hyy
                    have h4 : distSum y ≤ Dd := HDI.out.2.1
                    have d4 : decide (distSum y ≤ Dd) = true := decide_eq_true h4
                    have HRD := Lib.hid (fun w => rdist_any y hy29 w)
                    have q2 := HRT6.out.cell 2
                    rw [HV8.out] at q2
                    go_wp2_with fail
                    refine (HRD.out _).mono ?_
                    rintro e wx ⟨rfl, rfl⟩
                    go_wp2_with fail
                    refine wp_region_any (by kernel_rfl) ?_
                    change wpAny _ _ _ _ _ _ _ (World.drew _)
                    have HI7 : RowKit.Hid (FX w wx.drew pa pb (some ⟨g, oo, none⟩) m D (.slice A6 ml2 c6) M2) := Lib.hid (HI6.out.grow (grown_drewN wx 1))
                    have HRT7 : RowKit.Hid (Row wx.drew G #[U8 t.b, .int .i64 t.l, .int .i64 t.d] 105) := Lib.hid (HRT6.out.grown (grown_drewN wx 1) (by simp))
                    have HB7 : RowKit.Hid (w.heap.size ≤ wx.drew.heap.size) := Lib.hid (Nat.le_trans HB6.out (grown_drewN wx 1).size)
                    have HAP7 := Lib.hid HAP6.out
                    have hmore := HDI.out.2.2.1
                    have hDd : Dd ≤ 32768 := HS1.out.2.2.2.2
                    have h32 : y < 32 := by omega
                    have h32i : (y : Int) < 32 := by omega
                    have e1 : (Dd : Int) - (distSum y : Int) = ((Dd - distSum y : Nat) : Int) := by omega
                    have e2 : IntKind.i64.wrap ((Dd - distSum y : Nat) : Int) = ((Dd - distSum y : Nat) : Int) := wrap64_inT _ (by omega) (by omega)
                    clear q2 HI6 HRT6 HB6 HAP6
                    generalize wx.drew = w7 at HI7 HRT7 HB7 ⊢
                    have q2 : w7.cell? ⟨G, 2, none⟩ = some (.int .i64 (Dd : Int)) := by rw [HRT7.out.cell 2]; exact HV8.out
                    have r0 : w7.cell? ⟨pb, y, none⟩ = some (.string (strB (bitsO fixB (y : Nat)))) := by rw [← strAt_B]; exact HI7.out.rb.sa h32
                    refine wpAny_take (i := 0) (v := ?_) rfl (by kernel_rfl) (by kernel_rfl) (by kernel_rfl) (fun _ _ _ h => h) (Or.inl ⟨by rfl, ?_⟩) ?_
                    rotate_left
                    · intro w
                      go_simp
                      try with_reducible rfl
                    refine wpAny_take (i := 1) (v := ?_) rfl (by kernel_rfl) (by kernel_rfl) (by kernel_rfl) (fun _ _ _ h => h) (Or.inl ⟨by rfl, ?_⟩) ?_
                    rotate_left
                    · intro w
                      go_simp
                      try with_reducible rfl
                    refine wpAny_take (i := 2) (v := ?_) rfl (by kernel_rfl) (by kernel_rfl) (by kernel_rfl) (fun _ _ _ h => h) (Or.inl ⟨by rfl, ?_⟩) ?_
                    rotate_left
                    · intro w
                      go_simp
                      try with_reducible rfl
                    refine wpAny_take (i := 3) (v := ?_) rfl (by kernel_rfl) (by kernel_rfl) (by kernel_rfl) (fun _ _ _ h => h) (Or.inl ⟨by rfl, ?_⟩) ?_
                    rotate_left
                    · intro w
                      go_simp
                      try with_reducible rfl
                    refine wpAny_take (i := 6) (v := ?_) rfl (by kernel_rfl) (by kernel_rfl) (by kernel_rfl) (fun _ _ _ h => h) (Or.inl ⟨by rfl, ?_⟩) ?_
                    rotate_left
                    · intro w
                      go_simp
                      try with_reducible rfl
                    refine wpAny_take (i := 8) (v := ?_) rfl (by kernel_rfl) (by kernel_rfl) (by kernel_rfl) (fun _ _ _ h => h) (Or.inl ⟨by rfl, ?_⟩) ?_
                    rotate_left
                    · intro w
                      go_simp
                      try with_reducible rfl
                    refine wpAny_take (i := 10) (v := ?_) rfl (by kernel_rfl) (by kernel_rfl) (by kernel_rfl) (fun _ _ _ h => h) (Or.inl ⟨by rfl, ?_⟩) ?_
                    rotate_left
                    · intro w
                      go_simp
                      try with_reducible rfl
                    refine wpAny_ready (rs := [4, 7]) (by kernel_rfl) (by simp) ?_
                    refine AllReady.cons rfl (fun K hK => ?_) (AllReady.cons rfl (fun K hK => ?_) AllReady.nil)
                    · go_simp
                      refine hK _ _ ?_
                      clear hK K
                      refine wpAny_ready (rs := [5, 7]) (by kernel_rfl) (by simp) ?_
                      refine AllReady.cons rfl (fun K hK => ?_) (AllReady.cons rfl (fun K hK => ?_) AllReady.nil)
                      · go_simp
                        go_wp2_with fail
                        refine (rcode_any w.heap.size _ M2 (bitsO fixB (y : Nat)) _ HI7.out.own HB7.out (bin_bitsO _ _) (by have := HML8.out; omega)).mono ?_
                        rintro e w8 ⟨v8, rfl, hA8⟩
                        have HI8 := Lib.hid (HI7.out.step hA8)
                        have HRT8 := Lib.hid (HRT7.out.grown hA8.gr (fun e => HAP7.out _ e.symm rfl))
                        have HAP8 := Lib.hid (fresh_not hA8.fr HRT7.out.lt HAP7.out)
                        have HB8 : RowKit.Hid (w.heap.size ≤ w8.heap.size) := Lib.hid (Nat.le_trans HB7.out hA8.gr.size)
                        have q2 : w8.cell? ⟨G, 2, none⟩ = some (.int .i64 (Dd : Int)) := by rw [HRT8.out.cell 2]; exact HV8.out
                        clear hA8
                        go_simp
                        refine hK _ _ ?_
                        clear hK K
                        refine wpAny_ready (rs := [7]) (by kernel_rfl) (by simp) ?_
                        refine AllReady.cons rfl (fun K hK => ?_) AllReady.nil
                        go_simp
                        refine hK _ _ ?_
                        clear hK K
                        refine wpAny_take (i := 9) (v := ?_) rfl (by kernel_rfl) (by kernel_rfl) (by kernel_rfl) (fun _ _ _ h => h) (Or.inl ⟨by rfl, ?_⟩) ?_
                        rotate_left
                        · intro w
                          go_simp
                          try with_reducible rfl
                        refine wpAny_ready (rs := [11]) (by kernel_rfl) (by simp) ?_
                        refine AllReady.cons rfl (fun K hK => ?_) AllReady.nil
                        go_simp
                        go_wp2_with fail
                        refine (rput_any w.heap.size _ _ (Dd - distSum y) (distMore y) _ HI8.out.own HB8.out (by omega) (by omega) (by have := HML8.out; simp only [List.length_append]; omega)).mono ?_
                        rintro e w9 ⟨v9, rfl, hA9⟩
                        have HI9 := Lib.hid (HI8.out.step hA9)
                        have HRT9 := Lib.hid (HRT8.out.grown hA9.gr (fun e => HAP8.out _ e.symm rfl))
                        have HAP9 := Lib.hid (fresh_not hA9.fr HRT8.out.lt HAP8.out)
                        have HB9 : RowKit.Hid (w.heap.size ≤ w9.heap.size) := Lib.hid (Nat.le_trans HB8.out hA9.gr.size)
                        clear hA9 q2
                        go_simp
                        refine hK _ _ ?_
                        clear hK K
                        refine wpAny_take (i := 12) (v := ?_) rfl (by kernel_rfl) (by kernel_rfl) (by kernel_rfl) (fun _ _ _ h => h) (Or.inl ⟨by rfl, ?_⟩) ?_
                        rotate_left
                        · intro w
                          go_simp
                          try with_reducible rfl
                        refine wpAny_done (by kernel_rfl) ?_ _
                        have hI9 := HI9.out
                        rw [HM3.out] at hI9
                        have HI10 := Lib.hid hI9
                        clear hI9
                        go_wp2_with fail
                        go_roundw
                        case rel => exact ⟨k + 1, rfl, by omega, HI10.out⟩
                        case measure => simp [intOf]; omega
                      · go_simp
                        refine hK _ _ ?_
                        clear hK K
                        refine wpAny_take (i := 9) (v := ?_) rfl (by kernel_rfl) (by kernel_rfl) (by kernel_rfl) (fun _ _ _ h => h) (Or.inl ⟨by rfl, ?_⟩) ?_
                        rotate_left
                        · intro w
                          go_simp
                          try with_reducible rfl
                        refine wpAny_ready (rs := [5]) (by kernel_rfl) (by simp) ?_
                        refine AllReady.cons rfl (fun K hK => ?_) AllReady.nil
                        go_simp
                        go_wp2_with fail
                        refine (rcode_any w.heap.size _ M2 (bitsO fixB (y : Nat)) _ HI7.out.own HB7.out (bin_bitsO _ _) (by have := HML8.out; omega)).mono ?_
                        rintro e w8 ⟨v8, rfl, hA8⟩
                        have HI8 := Lib.hid (HI7.out.step hA8)
                        have HRT8 := Lib.hid (HRT7.out.grown hA8.gr (fun e => HAP7.out _ e.symm rfl))
                        have HAP8 := Lib.hid (fresh_not hA8.fr HRT7.out.lt HAP7.out)
                        have HB8 : RowKit.Hid (w.heap.size ≤ w8.heap.size) := Lib.hid (Nat.le_trans HB7.out hA8.gr.size)
                        have q2 : w8.cell? ⟨G, 2, none⟩ = some (.int .i64 (Dd : Int)) := by rw [HRT8.out.cell 2]; exact HV8.out
                        clear hA8
                        go_simp
                        refine hK _ _ ?_
                        clear hK K
                        refine wpAny_ready (rs := [11]) (by kernel_rfl) (by simp) ?_
                        refine AllReady.cons rfl (fun K hK => ?_) AllReady.nil
                        go_simp
                        go_wp2_with fail
                        refine (rput_any w.heap.size _ _ (Dd - distSum y) (distMore y) _ HI8.out.own HB8.out (by omega) (by omega) (by have := HML8.out; simp only [List.length_append]; omega)).mono ?_
                        rintro e w9 ⟨v9, rfl, hA9⟩
                        have HI9 := Lib.hid (HI8.out.step hA9)
                        have HRT9 := Lib.hid (HRT8.out.grown hA9.gr (fun e => HAP8.out _ e.symm rfl))
                        have HAP9 := Lib.hid (fresh_not hA9.fr HRT8.out.lt HAP8.out)
                        have HB9 : RowKit.Hid (w.heap.size ≤ w9.heap.size) := Lib.hid (Nat.le_trans HB8.out hA9.gr.size)
                        clear hA9 q2
                        go_simp
                        refine hK _ _ ?_
                        clear hK K
                        refine wpAny_take (i := 12) (v := ?_) rfl (by kernel_rfl) (by kernel_rfl) (by kernel_rfl) (fun _ _ _ h => h) (Or.inl ⟨by rfl, ?_⟩) ?_
                        rotate_left
                        · intro w
                          go_simp
                          try with_reducible rfl
                        refine wpAny_done (by kernel_rfl) ?_ _
                        have hI9 := HI9.out
                        rw [HM3.out] at hI9
                        have HI10 := Lib.hid hI9
                        clear hI9
                        go_wp2_with fail
                        go_roundw
                        case rel => exact ⟨k + 1, rfl, by omega, HI10.out⟩
                        case measure => simp [intOf]; omega
                    · go_simp
                      refine hK _ _ ?_
                      clear hK K
                      refine wpAny_take (i := 9) (v := ?_) rfl (by kernel_rfl) (by kernel_rfl) (by kernel_rfl) (fun _ _ _ h => h) (Or.inl ⟨by rfl, ?_⟩) ?_
                      rotate_left
                      · intro w
                        go_simp
                        try with_reducible rfl
                      refine wpAny_ready (rs := [4]) (by kernel_rfl) (by simp) ?_
                      refine AllReady.cons rfl (fun K hK => ?_) AllReady.nil
                      go_simp
                      refine hK _ _ ?_
                      clear hK K
                      refine wpAny_ready (rs := [5]) (by kernel_rfl) (by simp) ?_
                      refine AllReady.cons rfl (fun K hK => ?_) AllReady.nil
                      go_simp
                      go_wp2_with fail
                      refine (rcode_any w.heap.size _ M2 (bitsO fixB (y : Nat)) _ HI7.out.own HB7.out (bin_bitsO _ _) (by have := HML8.out; omega)).mono ?_
                      rintro e w8 ⟨v8, rfl, hA8⟩
                      have HI8 := Lib.hid (HI7.out.step hA8)
                      have HRT8 := Lib.hid (HRT7.out.grown hA8.gr (fun e => HAP7.out _ e.symm rfl))
                      have HAP8 := Lib.hid (fresh_not hA8.fr HRT7.out.lt HAP7.out)
                      have HB8 : RowKit.Hid (w.heap.size ≤ w8.heap.size) := Lib.hid (Nat.le_trans HB7.out hA8.gr.size)
                      have q2 : w8.cell? ⟨G, 2, none⟩ = some (.int .i64 (Dd : Int)) := by rw [HRT8.out.cell 2]; exact HV8.out
                      clear hA8
                      go_simp
                      refine hK _ _ ?_
                      clear hK K
                      refine wpAny_ready (rs := [11]) (by kernel_rfl) (by simp) ?_
                      refine AllReady.cons rfl (fun K hK => ?_) AllReady.nil
                      go_simp
                      go_wp2_with fail
                      refine (rput_any w.heap.size _ _ (Dd - distSum y) (distMore y) _ HI8.out.own HB8.out (by omega) (by omega) (by have := HML8.out; simp only [List.length_append]; omega)).mono ?_
                      rintro e w9 ⟨v9, rfl, hA9⟩
                      have HI9 := Lib.hid (HI8.out.step hA9)
                      have HRT9 := Lib.hid (HRT8.out.grown hA9.gr (fun e => HAP8.out _ e.symm rfl))
                      have HAP9 := Lib.hid (fresh_not hA9.fr HRT8.out.lt HAP8.out)
                      have HB9 : RowKit.Hid (w.heap.size ≤ w9.heap.size) := Lib.hid (Nat.le_trans HB8.out hA9.gr.size)
                      clear hA9 q2
                      go_simp
                      refine hK _ _ ?_
                      clear hK K
                      refine wpAny_take (i := 12) (v := ?_) rfl (by kernel_rfl) (by kernel_rfl) (by kernel_rfl) (fun _ _ _ h => h) (Or.inl ⟨by rfl, ?_⟩) ?_
                      rotate_left
                      · intro w
                        go_simp
                        try with_reducible rfl
                      refine wpAny_done (by kernel_rfl) ?_ _
                      have hI9 := HI9.out
                      rw [HM3.out] at hI9
                      have HI10 := Lib.hid hI9
                      clear hI9
                      go_wp2_with fail
                      go_roundw
                      case rel => exact ⟨k + 1, rfl, by omega, HI10.out⟩
                      case measure => simp [intOf]; omega
              · go_simp
                refine hK _ _ ?_
                clear hK K
                refine wpAny_take (i := 9) (v := ?_) rfl (by kernel_rfl) (by kernel_rfl) (by kernel_rfl) (fun _ _ _ h => h) (Or.inl ⟨by rfl, ?_⟩) ?_
                rotate_left
                · intro w
                  go_simp
                  try with_reducible rfl
                refine wpAny_ready (rs := [5]) (by kernel_rfl) (by simp) ?_
                refine AllReady.cons rfl (fun K hK => ?_) AllReady.nil
                go_simp
                go_wp2_with fail
                refine (rcode_any w.heap.size _ M (bitsO fixA (s : Nat)) _ HI4.out.own HB4.out (bin_bitsO _ _) (by have := HML5.out; omega)).mono ?_
                rintro e w5 ⟨v5, rfl, hA5⟩
                have HI5 := Lib.hid (HI4.out.step hA5)
                have HRT5 := Lib.hid (HRT4.out.grown hA5.gr (fun e => HAP4.out _ e.symm rfl))
                have HAP5 := Lib.hid (fresh_not hA5.fr HRT4.out.lt HAP4.out)
                have HB5 : RowKit.Hid (w.heap.size ≤ w5.heap.size) := Lib.hid (Nat.le_trans HB4.out hA5.gr.size)
                have q1 : w5.cell? ⟨G, 1, none⟩ = some (.int .i64 (L : Int)) := by rw [HRT5.out.cell 1]; exact HV5.out
                clear hA5
                go_simp
                refine hK _ _ ?_
                clear hK K
                refine wpAny_ready (rs := [11]) (by kernel_rfl) (by simp) ?_
                refine AllReady.cons rfl (fun K hK => ?_) AllReady.nil
                go_simp
                go_wp2_with fail
                refine (rput_any w.heap.size _ _ (L - lenBase s) (lenMore s) _ HI5.out.own HB5.out (by omega) (by omega) (by have := HML5.out; simp only [List.length_append]; omega)).mono ?_
                rintro e w6 ⟨v6, rfl, hA6⟩
                have HI6 := Lib.hid (HI5.out.step hA6)
                have HRT6 := Lib.hid (HRT5.out.grown hA6.gr (fun e => HAP5.out _ e.symm rfl))
                have HAP6 := Lib.hid (fresh_not hA6.fr HRT5.out.lt HAP5.out)
                have HB6 : RowKit.Hid (w.heap.size ≤ w6.heap.size) := Lib.hid (Nat.le_trans HB5.out hA6.gr.size)
                clear hA6 q1
                go_simp
                refine hK _ _ ?_
                clear hK K
                refine wpAny_take (i := 12) (v := ?_) rfl (by kernel_rfl) (by kernel_rfl) (by kernel_rfl) (fun _ _ _ h => h) (Or.inl ⟨by rfl, ?_⟩) ?_
                rotate_left
                · intro w
                  go_simp
                  try with_reducible rfl
                refine wpAny_done (by kernel_rfl) ?_ _
                obtain ⟨M2, hM2⟩ : ∃ M2, M ++ bitsO fixA (s : Nat) ++ lowB (L - lenBase s) (lenMore s) = M2 := ⟨_, rfl⟩
                rw [hM2] at HI6
                have hM3 : M2 ++ bitsO fixB (S' : Nat) ++ lowB (Dd - distSum S') (distMore S') = [1, 1, 0] ++ (D.take (k + 1)).flatMap tokB := by
                  rw [← hM2, ← HM2.out, HTB.out]; simp only [List.append_assoc]
                have hML8 : M2.length + (bitsO fixB (S' : Nat)).length ≤ 80403 := by
                  have h1 := HLM.out
                  have h2 := tokB_length t
                  rw [HTB.out] at h2
                  rw [← hM2]
                  simp only [List.length_append] at h2 ⊢
                  omega
                have HM3 := Lib.hid hM3
                have HML8 := Lib.hid hML8
                obtain ⟨A6, c6, hv6⟩ := HI6.out.own.slice
                generalize hml2 : M2.length = ml2 at hv6
                subst hv6
                clear hM2 hM3 hML8 hml2 HI4 HRT4 HB4 HAP4 HI5 HRT5 HB5 HAP5 HML5 e1 e2 r0 h288 h288i h4 d4 hmore hs hsS hs285 d3 HRL
                go_wp2_with fail
                go_loopw [9, 15] (fun u i wq => u = .slice A6 ml2 c6 ∧ ∃ y : Nat, i = .int .i64 (y : Int) ∧ S' ≤ y ∧ y ≤ 29 ∧ wq = w6) (fun _ i _ => (intOf i).toNat)
                case atStart => exact ⟨rfl, 29, rfl, HDI.out.1, by decide, rfl⟩
                case round =>
                  obtain ⟨rfl, y, rfl, hy, hy29, rfl⟩ := hrel
                  have d3 : decide ((0 : Int) ≤ (y : Int)) = true := decide_eq_true (by omega)
                  by_cases hyS : S' < y
                  · have h4 : ¬ distSum y ≤ Dd := by have := HDI.out.2.2.2 y hyS hy29; omega
                    have d4 : decide (distSum y ≤ Dd) = false := decide_eq_false h4
                    have HRD := Lib.hid (fun w => rdist_any y hy29 w)
                    have q2 := HRT6.out.cell 2
                    rw [HV8.out] at q2
                    go_wp2_with fail
                    refine (HRD.out _).mono ?_
                    rintro e wx ⟨rfl, rfl⟩
                    go_wp2_with fail
                    go_roundw
                    case rel => exact ⟨rfl, y - 1, by congr 1; omega, by omega, by omega, trivial⟩
                    case measure => simp [intOf]; omega
                  · have hyy : y = S' := by omega
                    subst hyy
                    have h4 : distSum y ≤ Dd := HDI.out.2.1
                    have d4 : decide (distSum y ≤ Dd) = true := decide_eq_true h4
                    have HRD := Lib.hid (fun w => rdist_any y hy29 w)
                    have q2 := HRT6.out.cell 2
                    rw [HV8.out] at q2
                    go_wp2_with fail
                    refine (HRD.out _).mono ?_
                    rintro e wx ⟨rfl, rfl⟩
                    go_wp2_with fail
                    refine wp_region_any (by kernel_rfl) ?_
                    change wpAny _ _ _ _ _ _ _ (World.drew _)
                    have HI7 : RowKit.Hid (FX w wx.drew pa pb (some ⟨g, oo, none⟩) m D (.slice A6 ml2 c6) M2) := Lib.hid (HI6.out.grow (grown_drewN wx 1))
                    have HRT7 : RowKit.Hid (Row wx.drew G #[U8 t.b, .int .i64 t.l, .int .i64 t.d] 105) := Lib.hid (HRT6.out.grown (grown_drewN wx 1) (by simp))
                    have HB7 : RowKit.Hid (w.heap.size ≤ wx.drew.heap.size) := Lib.hid (Nat.le_trans HB6.out (grown_drewN wx 1).size)
                    have HAP7 := Lib.hid HAP6.out
                    have hmore := HDI.out.2.2.1
                    have hDd : Dd ≤ 32768 := HS1.out.2.2.2.2
                    have h32 : y < 32 := by omega
                    have h32i : (y : Int) < 32 := by omega
                    have e1 : (Dd : Int) - (distSum y : Int) = ((Dd - distSum y : Nat) : Int) := by omega
                    have e2 : IntKind.i64.wrap ((Dd - distSum y : Nat) : Int) = ((Dd - distSum y : Nat) : Int) := wrap64_inT _ (by omega) (by omega)
                    clear q2 HI6 HRT6 HB6 HAP6
                    generalize wx.drew = w7 at HI7 HRT7 HB7 ⊢
                    have q2 : w7.cell? ⟨G, 2, none⟩ = some (.int .i64 (Dd : Int)) := by rw [HRT7.out.cell 2]; exact HV8.out
                    have r0 : w7.cell? ⟨pb, y, none⟩ = some (.string (strB (bitsO fixB (y : Nat)))) := by rw [← strAt_B]; exact HI7.out.rb.sa h32
                    refine wpAny_take (i := 0) (v := ?_) rfl (by kernel_rfl) (by kernel_rfl) (by kernel_rfl) (fun _ _ _ h => h) (Or.inl ⟨by rfl, ?_⟩) ?_
                    rotate_left
                    · intro w
                      go_simp
                      try with_reducible rfl
                    refine wpAny_take (i := 1) (v := ?_) rfl (by kernel_rfl) (by kernel_rfl) (by kernel_rfl) (fun _ _ _ h => h) (Or.inl ⟨by rfl, ?_⟩) ?_
                    rotate_left
                    · intro w
                      go_simp
                      try with_reducible rfl
                    refine wpAny_take (i := 2) (v := ?_) rfl (by kernel_rfl) (by kernel_rfl) (by kernel_rfl) (fun _ _ _ h => h) (Or.inl ⟨by rfl, ?_⟩) ?_
                    rotate_left
                    · intro w
                      go_simp
                      try with_reducible rfl
                    refine wpAny_take (i := 3) (v := ?_) rfl (by kernel_rfl) (by kernel_rfl) (by kernel_rfl) (fun _ _ _ h => h) (Or.inl ⟨by rfl, ?_⟩) ?_
                    rotate_left
                    · intro w
                      go_simp
                      try with_reducible rfl
                    refine wpAny_take (i := 6) (v := ?_) rfl (by kernel_rfl) (by kernel_rfl) (by kernel_rfl) (fun _ _ _ h => h) (Or.inl ⟨by rfl, ?_⟩) ?_
                    rotate_left
                    · intro w
                      go_simp
                      try with_reducible rfl
                    refine wpAny_take (i := 8) (v := ?_) rfl (by kernel_rfl) (by kernel_rfl) (by kernel_rfl) (fun _ _ _ h => h) (Or.inl ⟨by rfl, ?_⟩) ?_
                    rotate_left
                    · intro w
                      go_simp
                      try with_reducible rfl
                    refine wpAny_take (i := 10) (v := ?_) rfl (by kernel_rfl) (by kernel_rfl) (by kernel_rfl) (fun _ _ _ h => h) (Or.inl ⟨by rfl, ?_⟩) ?_
                    rotate_left
                    · intro w
                      go_simp
                      try with_reducible rfl
                    refine wpAny_ready (rs := [4, 7]) (by kernel_rfl) (by simp) ?_
                    refine AllReady.cons rfl (fun K hK => ?_) (AllReady.cons rfl (fun K hK => ?_) AllReady.nil)
                    · go_simp
                      refine hK _ _ ?_
                      clear hK K
                      refine wpAny_ready (rs := [5, 7]) (by kernel_rfl) (by simp) ?_
                      refine AllReady.cons rfl (fun K hK => ?_) (AllReady.cons rfl (fun K hK => ?_) AllReady.nil)
                      · go_simp
                        go_wp2_with fail
                        refine (rcode_any w.heap.size _ M2 (bitsO fixB (y : Nat)) _ HI7.out.own HB7.out (bin_bitsO _ _) (by have := HML8.out; omega)).mono ?_
                        rintro e w8 ⟨v8, rfl, hA8⟩
                        have HI8 := Lib.hid (HI7.out.step hA8)
                        have HRT8 := Lib.hid (HRT7.out.grown hA8.gr (fun e => HAP7.out _ e.symm rfl))
                        have HAP8 := Lib.hid (fresh_not hA8.fr HRT7.out.lt HAP7.out)
                        have HB8 : RowKit.Hid (w.heap.size ≤ w8.heap.size) := Lib.hid (Nat.le_trans HB7.out hA8.gr.size)
                        have q2 : w8.cell? ⟨G, 2, none⟩ = some (.int .i64 (Dd : Int)) := by rw [HRT8.out.cell 2]; exact HV8.out
                        clear hA8
                        go_simp
                        refine hK _ _ ?_
                        clear hK K
                        refine wpAny_ready (rs := [7]) (by kernel_rfl) (by simp) ?_
                        refine AllReady.cons rfl (fun K hK => ?_) AllReady.nil
                        go_simp
                        refine hK _ _ ?_
                        clear hK K
                        refine wpAny_take (i := 9) (v := ?_) rfl (by kernel_rfl) (by kernel_rfl) (by kernel_rfl) (fun _ _ _ h => h) (Or.inl ⟨by rfl, ?_⟩) ?_
                        rotate_left
                        · intro w
                          go_simp
                          try with_reducible rfl
                        refine wpAny_ready (rs := [11]) (by kernel_rfl) (by simp) ?_
                        refine AllReady.cons rfl (fun K hK => ?_) AllReady.nil
                        go_simp
                        go_wp2_with fail
                        refine (rput_any w.heap.size _ _ (Dd - distSum y) (distMore y) _ HI8.out.own HB8.out (by omega) (by omega) (by have := HML8.out; simp only [List.length_append]; omega)).mono ?_
                        rintro e w9 ⟨v9, rfl, hA9⟩
                        have HI9 := Lib.hid (HI8.out.step hA9)
                        have HRT9 := Lib.hid (HRT8.out.grown hA9.gr (fun e => HAP8.out _ e.symm rfl))
                        have HAP9 := Lib.hid (fresh_not hA9.fr HRT8.out.lt HAP8.out)
                        have HB9 : RowKit.Hid (w.heap.size ≤ w9.heap.size) := Lib.hid (Nat.le_trans HB8.out hA9.gr.size)
                        clear hA9 q2
                        go_simp
                        refine hK _ _ ?_
                        clear hK K
                        refine wpAny_take (i := 12) (v := ?_) rfl (by kernel_rfl) (by kernel_rfl) (by kernel_rfl) (fun _ _ _ h => h) (Or.inl ⟨by rfl, ?_⟩) ?_
                        rotate_left
                        · intro w
                          go_simp
                          try with_reducible rfl
                        refine wpAny_done (by kernel_rfl) ?_ _
                        have hI9 := HI9.out
                        rw [HM3.out] at hI9
                        have HI10 := Lib.hid hI9
                        clear hI9
                        go_wp2_with fail
                        go_roundw
                        case rel => exact ⟨k + 1, rfl, by omega, HI10.out⟩
                        case measure => simp [intOf]; omega
                      · go_simp
                        refine hK _ _ ?_
                        clear hK K
                        refine wpAny_take (i := 9) (v := ?_) rfl (by kernel_rfl) (by kernel_rfl) (by kernel_rfl) (fun _ _ _ h => h) (Or.inl ⟨by rfl, ?_⟩) ?_
                        rotate_left
                        · intro w
                          go_simp
                          try with_reducible rfl
                        refine wpAny_ready (rs := [5]) (by kernel_rfl) (by simp) ?_
                        refine AllReady.cons rfl (fun K hK => ?_) AllReady.nil
                        go_simp
                        go_wp2_with fail
                        refine (rcode_any w.heap.size _ M2 (bitsO fixB (y : Nat)) _ HI7.out.own HB7.out (bin_bitsO _ _) (by have := HML8.out; omega)).mono ?_
                        rintro e w8 ⟨v8, rfl, hA8⟩
                        have HI8 := Lib.hid (HI7.out.step hA8)
                        have HRT8 := Lib.hid (HRT7.out.grown hA8.gr (fun e => HAP7.out _ e.symm rfl))
                        have HAP8 := Lib.hid (fresh_not hA8.fr HRT7.out.lt HAP7.out)
                        have HB8 : RowKit.Hid (w.heap.size ≤ w8.heap.size) := Lib.hid (Nat.le_trans HB7.out hA8.gr.size)
                        have q2 : w8.cell? ⟨G, 2, none⟩ = some (.int .i64 (Dd : Int)) := by rw [HRT8.out.cell 2]; exact HV8.out
                        clear hA8
                        go_simp
                        refine hK _ _ ?_
                        clear hK K
                        refine wpAny_ready (rs := [11]) (by kernel_rfl) (by simp) ?_
                        refine AllReady.cons rfl (fun K hK => ?_) AllReady.nil
                        go_simp
                        go_wp2_with fail
                        refine (rput_any w.heap.size _ _ (Dd - distSum y) (distMore y) _ HI8.out.own HB8.out (by omega) (by omega) (by have := HML8.out; simp only [List.length_append]; omega)).mono ?_
                        rintro e w9 ⟨v9, rfl, hA9⟩
                        have HI9 := Lib.hid (HI8.out.step hA9)
                        have HRT9 := Lib.hid (HRT8.out.grown hA9.gr (fun e => HAP8.out _ e.symm rfl))
                        have HAP9 := Lib.hid (fresh_not hA9.fr HRT8.out.lt HAP8.out)
                        have HB9 : RowKit.Hid (w.heap.size ≤ w9.heap.size) := Lib.hid (Nat.le_trans HB8.out hA9.gr.size)
                        clear hA9 q2
                        go_simp
                        refine hK _ _ ?_
                        clear hK K
                        refine wpAny_take (i := 12) (v := ?_) rfl (by kernel_rfl) (by kernel_rfl) (by kernel_rfl) (fun _ _ _ h => h) (Or.inl ⟨by rfl, ?_⟩) ?_
                        rotate_left
                        · intro w
                          go_simp
                          try with_reducible rfl
                        refine wpAny_done (by kernel_rfl) ?_ _
                        have hI9 := HI9.out
                        rw [HM3.out] at hI9
                        have HI10 := Lib.hid hI9
                        clear hI9
                        go_wp2_with fail
                        go_roundw
                        case rel => exact ⟨k + 1, rfl, by omega, HI10.out⟩
                        case measure => simp [intOf]; omega
                    · go_simp
                      refine hK _ _ ?_
                      clear hK K
                      refine wpAny_take (i := 9) (v := ?_) rfl (by kernel_rfl) (by kernel_rfl) (by kernel_rfl) (fun _ _ _ h => h) (Or.inl ⟨by rfl, ?_⟩) ?_
                      rotate_left
                      · intro w
                        go_simp
                        try with_reducible rfl
                      refine wpAny_ready (rs := [4]) (by kernel_rfl) (by simp) ?_
                      refine AllReady.cons rfl (fun K hK => ?_) AllReady.nil
                      go_simp
                      refine hK _ _ ?_
                      clear hK K
                      refine wpAny_ready (rs := [5]) (by kernel_rfl) (by simp) ?_
                      refine AllReady.cons rfl (fun K hK => ?_) AllReady.nil
                      go_simp
                      go_wp2_with fail
                      refine (rcode_any w.heap.size _ M2 (bitsO fixB (y : Nat)) _ HI7.out.own HB7.out (bin_bitsO _ _) (by have := HML8.out; omega)).mono ?_
                      rintro e w8 ⟨v8, rfl, hA8⟩
                      have HI8 := Lib.hid (HI7.out.step hA8)
                      have HRT8 := Lib.hid (HRT7.out.grown hA8.gr (fun e => HAP7.out _ e.symm rfl))
                      have HAP8 := Lib.hid (fresh_not hA8.fr HRT7.out.lt HAP7.out)
                      have HB8 : RowKit.Hid (w.heap.size ≤ w8.heap.size) := Lib.hid (Nat.le_trans HB7.out hA8.gr.size)
                      have q2 : w8.cell? ⟨G, 2, none⟩ = some (.int .i64 (Dd : Int)) := by rw [HRT8.out.cell 2]; exact HV8.out
                      clear hA8
                      go_simp
                      refine hK _ _ ?_
                      clear hK K
                      refine wpAny_ready (rs := [11]) (by kernel_rfl) (by simp) ?_
                      refine AllReady.cons rfl (fun K hK => ?_) AllReady.nil
                      go_simp
                      go_wp2_with fail
                      refine (rput_any w.heap.size _ _ (Dd - distSum y) (distMore y) _ HI8.out.own HB8.out (by omega) (by omega) (by have := HML8.out; simp only [List.length_append]; omega)).mono ?_
                      rintro e w9 ⟨v9, rfl, hA9⟩
                      have HI9 := Lib.hid (HI8.out.step hA9)
                      have HRT9 := Lib.hid (HRT8.out.grown hA9.gr (fun e => HAP8.out _ e.symm rfl))
                      have HAP9 := Lib.hid (fresh_not hA9.fr HRT8.out.lt HAP8.out)
                      have HB9 : RowKit.Hid (w.heap.size ≤ w9.heap.size) := Lib.hid (Nat.le_trans HB8.out hA9.gr.size)
                      clear hA9 q2
                      go_simp
                      refine hK _ _ ?_
                      clear hK K
                      refine wpAny_take (i := 12) (v := ?_) rfl (by kernel_rfl) (by kernel_rfl) (by kernel_rfl) (fun _ _ _ h => h) (Or.inl ⟨by rfl, ?_⟩) ?_
                      rotate_left
                      · intro w
                        go_simp
                        try with_reducible rfl
                      refine wpAny_done (by kernel_rfl) ?_ _
                      have hI9 := HI9.out
                      rw [HM3.out] at hI9
                      have HI10 := Lib.hid hI9
                      clear hI9
                      go_wp2_with fail
                      go_roundw
                      case rel => exact ⟨k + 1, rfl, by omega, HI10.out⟩
                      case measure => simp [intOf]; omega
            · go_simp
              refine hK _ _ ?_
              clear hK K
              refine wpAny_take (i := 9) (v := ?_) rfl (by kernel_rfl) (by kernel_rfl) (by kernel_rfl) (fun _ _ _ h => h) (Or.inl ⟨by rfl, ?_⟩) ?_
              rotate_left
              · intro w
                go_simp
                try with_reducible rfl
              refine wpAny_ready (rs := [4]) (by kernel_rfl) (by simp) ?_
              refine AllReady.cons rfl (fun K hK => ?_) AllReady.nil
              go_simp
              refine hK _ _ ?_
              clear hK K
              refine wpAny_ready (rs := [5]) (by kernel_rfl) (by simp) ?_
              refine AllReady.cons rfl (fun K hK => ?_) AllReady.nil
              go_simp
              go_wp2_with fail
              refine (rcode_any w.heap.size _ M (bitsO fixA (s : Nat)) _ HI4.out.own HB4.out (bin_bitsO _ _) (by have := HML5.out; omega)).mono ?_
              rintro e w5 ⟨v5, rfl, hA5⟩
              have HI5 := Lib.hid (HI4.out.step hA5)
              have HRT5 := Lib.hid (HRT4.out.grown hA5.gr (fun e => HAP4.out _ e.symm rfl))
              have HAP5 := Lib.hid (fresh_not hA5.fr HRT4.out.lt HAP4.out)
              have HB5 : RowKit.Hid (w.heap.size ≤ w5.heap.size) := Lib.hid (Nat.le_trans HB4.out hA5.gr.size)
              have q1 : w5.cell? ⟨G, 1, none⟩ = some (.int .i64 (L : Int)) := by rw [HRT5.out.cell 1]; exact HV5.out
              clear hA5
              go_simp
              refine hK _ _ ?_
              clear hK K
              refine wpAny_ready (rs := [11]) (by kernel_rfl) (by simp) ?_
              refine AllReady.cons rfl (fun K hK => ?_) AllReady.nil
              go_simp
              go_wp2_with fail
              refine (rput_any w.heap.size _ _ (L - lenBase s) (lenMore s) _ HI5.out.own HB5.out (by omega) (by omega) (by have := HML5.out; simp only [List.length_append]; omega)).mono ?_
              rintro e w6 ⟨v6, rfl, hA6⟩
              have HI6 := Lib.hid (HI5.out.step hA6)
              have HRT6 := Lib.hid (HRT5.out.grown hA6.gr (fun e => HAP5.out _ e.symm rfl))
              have HAP6 := Lib.hid (fresh_not hA6.fr HRT5.out.lt HAP5.out)
              have HB6 : RowKit.Hid (w.heap.size ≤ w6.heap.size) := Lib.hid (Nat.le_trans HB5.out hA6.gr.size)
              clear hA6 q1
              go_simp
              refine hK _ _ ?_
              clear hK K
              refine wpAny_take (i := 12) (v := ?_) rfl (by kernel_rfl) (by kernel_rfl) (by kernel_rfl) (fun _ _ _ h => h) (Or.inl ⟨by rfl, ?_⟩) ?_
              rotate_left
              · intro w
                go_simp
                try with_reducible rfl
              refine wpAny_done (by kernel_rfl) ?_ _
              obtain ⟨M2, hM2⟩ : ∃ M2, M ++ bitsO fixA (s : Nat) ++ lowB (L - lenBase s) (lenMore s) = M2 := ⟨_, rfl⟩
              rw [hM2] at HI6
              have hM3 : M2 ++ bitsO fixB (S' : Nat) ++ lowB (Dd - distSum S') (distMore S') = [1, 1, 0] ++ (D.take (k + 1)).flatMap tokB := by
                rw [← hM2, ← HM2.out, HTB.out]; simp only [List.append_assoc]
              have hML8 : M2.length + (bitsO fixB (S' : Nat)).length ≤ 80403 := by
                have h1 := HLM.out
                have h2 := tokB_length t
                rw [HTB.out] at h2
                rw [← hM2]
                simp only [List.length_append] at h2 ⊢
                omega
              have HM3 := Lib.hid hM3
              have HML8 := Lib.hid hML8
              obtain ⟨A6, c6, hv6⟩ := HI6.out.own.slice
              generalize hml2 : M2.length = ml2 at hv6
              subst hv6
              clear hM2 hM3 hML8 hml2 HI4 HRT4 HB4 HAP4 HI5 HRT5 HB5 HAP5 HML5 e1 e2 r0 h288 h288i h4 d4 hmore hs hsS hs285 d3 HRL
              go_wp2_with fail
              go_loopw [9, 15] (fun u i wq => u = .slice A6 ml2 c6 ∧ ∃ y : Nat, i = .int .i64 (y : Int) ∧ S' ≤ y ∧ y ≤ 29 ∧ wq = w6) (fun _ i _ => (intOf i).toNat)
              case atStart => exact ⟨rfl, 29, rfl, HDI.out.1, by decide, rfl⟩
              case round =>
                obtain ⟨rfl, y, rfl, hy, hy29, rfl⟩ := hrel
                have d3 : decide ((0 : Int) ≤ (y : Int)) = true := decide_eq_true (by omega)
                by_cases hyS : S' < y
                · have h4 : ¬ distSum y ≤ Dd := by have := HDI.out.2.2.2 y hyS hy29; omega
                  have d4 : decide (distSum y ≤ Dd) = false := decide_eq_false h4
                  have HRD := Lib.hid (fun w => rdist_any y hy29 w)
                  have q2 := HRT6.out.cell 2
                  rw [HV8.out] at q2
                  go_wp2_with fail
                  refine (HRD.out _).mono ?_
                  rintro e wx ⟨rfl, rfl⟩
                  go_wp2_with fail
                  go_roundw
                  case rel => exact ⟨rfl, y - 1, by congr 1; omega, by omega, by omega, trivial⟩
                  case measure => simp [intOf]; omega
                · have hyy : y = S' := by omega
                  subst hyy
                  have h4 : distSum y ≤ Dd := HDI.out.2.1
                  have d4 : decide (distSum y ≤ Dd) = true := decide_eq_true h4
                  have HRD := Lib.hid (fun w => rdist_any y hy29 w)
                  have q2 := HRT6.out.cell 2
                  rw [HV8.out] at q2
                  go_wp2_with fail
                  refine (HRD.out _).mono ?_
                  rintro e wx ⟨rfl, rfl⟩
                  go_wp2_with fail
                  refine wp_region_any (by kernel_rfl) ?_
                  change wpAny _ _ _ _ _ _ _ (World.drew _)
                  have HI7 : RowKit.Hid (FX w wx.drew pa pb (some ⟨g, oo, none⟩) m D (.slice A6 ml2 c6) M2) := Lib.hid (HI6.out.grow (grown_drewN wx 1))
                  have HRT7 : RowKit.Hid (Row wx.drew G #[U8 t.b, .int .i64 t.l, .int .i64 t.d] 105) := Lib.hid (HRT6.out.grown (grown_drewN wx 1) (by simp))
                  have HB7 : RowKit.Hid (w.heap.size ≤ wx.drew.heap.size) := Lib.hid (Nat.le_trans HB6.out (grown_drewN wx 1).size)
                  have HAP7 := Lib.hid HAP6.out
                  have hmore := HDI.out.2.2.1
                  have hDd : Dd ≤ 32768 := HS1.out.2.2.2.2
                  have h32 : y < 32 := by omega
                  have h32i : (y : Int) < 32 := by omega
                  have e1 : (Dd : Int) - (distSum y : Int) = ((Dd - distSum y : Nat) : Int) := by omega
                  have e2 : IntKind.i64.wrap ((Dd - distSum y : Nat) : Int) = ((Dd - distSum y : Nat) : Int) := wrap64_inT _ (by omega) (by omega)
                  clear q2 HI6 HRT6 HB6 HAP6
                  generalize wx.drew = w7 at HI7 HRT7 HB7 ⊢
                  have q2 : w7.cell? ⟨G, 2, none⟩ = some (.int .i64 (Dd : Int)) := by rw [HRT7.out.cell 2]; exact HV8.out
                  have r0 : w7.cell? ⟨pb, y, none⟩ = some (.string (strB (bitsO fixB (y : Nat)))) := by rw [← strAt_B]; exact HI7.out.rb.sa h32
                  refine wpAny_take (i := 0) (v := ?_) rfl (by kernel_rfl) (by kernel_rfl) (by kernel_rfl) (fun _ _ _ h => h) (Or.inl ⟨by rfl, ?_⟩) ?_
                  rotate_left
                  · intro w
                    go_simp
                    try with_reducible rfl
                  refine wpAny_take (i := 1) (v := ?_) rfl (by kernel_rfl) (by kernel_rfl) (by kernel_rfl) (fun _ _ _ h => h) (Or.inl ⟨by rfl, ?_⟩) ?_
                  rotate_left
                  · intro w
                    go_simp
                    try with_reducible rfl
                  refine wpAny_take (i := 2) (v := ?_) rfl (by kernel_rfl) (by kernel_rfl) (by kernel_rfl) (fun _ _ _ h => h) (Or.inl ⟨by rfl, ?_⟩) ?_
                  rotate_left
                  · intro w
                    go_simp
                    try with_reducible rfl
                  refine wpAny_take (i := 3) (v := ?_) rfl (by kernel_rfl) (by kernel_rfl) (by kernel_rfl) (fun _ _ _ h => h) (Or.inl ⟨by rfl, ?_⟩) ?_
                  rotate_left
                  · intro w
                    go_simp
                    try with_reducible rfl
                  refine wpAny_take (i := 6) (v := ?_) rfl (by kernel_rfl) (by kernel_rfl) (by kernel_rfl) (fun _ _ _ h => h) (Or.inl ⟨by rfl, ?_⟩) ?_
                  rotate_left
                  · intro w
                    go_simp
                    try with_reducible rfl
                  refine wpAny_take (i := 8) (v := ?_) rfl (by kernel_rfl) (by kernel_rfl) (by kernel_rfl) (fun _ _ _ h => h) (Or.inl ⟨by rfl, ?_⟩) ?_
                  rotate_left
                  · intro w
                    go_simp
                    try with_reducible rfl
                  refine wpAny_take (i := 10) (v := ?_) rfl (by kernel_rfl) (by kernel_rfl) (by kernel_rfl) (fun _ _ _ h => h) (Or.inl ⟨by rfl, ?_⟩) ?_
                  rotate_left
                  · intro w
                    go_simp
                    try with_reducible rfl
                  refine wpAny_ready (rs := [4, 7]) (by kernel_rfl) (by simp) ?_
                  refine AllReady.cons rfl (fun K hK => ?_) (AllReady.cons rfl (fun K hK => ?_) AllReady.nil)
                  · go_simp
                    refine hK _ _ ?_
                    clear hK K
                    refine wpAny_ready (rs := [5, 7]) (by kernel_rfl) (by simp) ?_
                    refine AllReady.cons rfl (fun K hK => ?_) (AllReady.cons rfl (fun K hK => ?_) AllReady.nil)
                    · go_simp
                      go_wp2_with fail
                      refine (rcode_any w.heap.size _ M2 (bitsO fixB (y : Nat)) _ HI7.out.own HB7.out (bin_bitsO _ _) (by have := HML8.out; omega)).mono ?_
                      rintro e w8 ⟨v8, rfl, hA8⟩
                      have HI8 := Lib.hid (HI7.out.step hA8)
                      have HRT8 := Lib.hid (HRT7.out.grown hA8.gr (fun e => HAP7.out _ e.symm rfl))
                      have HAP8 := Lib.hid (fresh_not hA8.fr HRT7.out.lt HAP7.out)
                      have HB8 : RowKit.Hid (w.heap.size ≤ w8.heap.size) := Lib.hid (Nat.le_trans HB7.out hA8.gr.size)
                      have q2 : w8.cell? ⟨G, 2, none⟩ = some (.int .i64 (Dd : Int)) := by rw [HRT8.out.cell 2]; exact HV8.out
                      clear hA8
                      go_simp
                      refine hK _ _ ?_
                      clear hK K
                      refine wpAny_ready (rs := [7]) (by kernel_rfl) (by simp) ?_
                      refine AllReady.cons rfl (fun K hK => ?_) AllReady.nil
                      go_simp
                      refine hK _ _ ?_
                      clear hK K
                      refine wpAny_take (i := 9) (v := ?_) rfl (by kernel_rfl) (by kernel_rfl) (by kernel_rfl) (fun _ _ _ h => h) (Or.inl ⟨by rfl, ?_⟩) ?_
                      rotate_left
                      · intro w
                        go_simp
                        try with_reducible rfl
                      refine wpAny_ready (rs := [11]) (by kernel_rfl) (by simp) ?_
                      refine AllReady.cons rfl (fun K hK => ?_) AllReady.nil
                      go_simp
                      go_wp2_with fail
                      refine (rput_any w.heap.size _ _ (Dd - distSum y) (distMore y) _ HI8.out.own HB8.out (by omega) (by omega) (by have := HML8.out; simp only [List.length_append]; omega)).mono ?_
                      rintro e w9 ⟨v9, rfl, hA9⟩
                      have HI9 := Lib.hid (HI8.out.step hA9)
                      have HRT9 := Lib.hid (HRT8.out.grown hA9.gr (fun e => HAP8.out _ e.symm rfl))
                      have HAP9 := Lib.hid (fresh_not hA9.fr HRT8.out.lt HAP8.out)
                      have HB9 : RowKit.Hid (w.heap.size ≤ w9.heap.size) := Lib.hid (Nat.le_trans HB8.out hA9.gr.size)
                      clear hA9 q2
                      go_simp
                      refine hK _ _ ?_
                      clear hK K
                      refine wpAny_take (i := 12) (v := ?_) rfl (by kernel_rfl) (by kernel_rfl) (by kernel_rfl) (fun _ _ _ h => h) (Or.inl ⟨by rfl, ?_⟩) ?_
                      rotate_left
                      · intro w
                        go_simp
                        try with_reducible rfl
                      refine wpAny_done (by kernel_rfl) ?_ _
                      have hI9 := HI9.out
                      rw [HM3.out] at hI9
                      have HI10 := Lib.hid hI9
                      clear hI9
                      go_wp2_with fail
                      go_roundw
                      case rel => exact ⟨k + 1, rfl, by omega, HI10.out⟩
                      case measure => simp [intOf]; omega
                    · go_simp
                      refine hK _ _ ?_
                      clear hK K
                      refine wpAny_take (i := 9) (v := ?_) rfl (by kernel_rfl) (by kernel_rfl) (by kernel_rfl) (fun _ _ _ h => h) (Or.inl ⟨by rfl, ?_⟩) ?_
                      rotate_left
                      · intro w
                        go_simp
                        try with_reducible rfl
                      refine wpAny_ready (rs := [5]) (by kernel_rfl) (by simp) ?_
                      refine AllReady.cons rfl (fun K hK => ?_) AllReady.nil
                      go_simp
                      go_wp2_with fail
                      refine (rcode_any w.heap.size _ M2 (bitsO fixB (y : Nat)) _ HI7.out.own HB7.out (bin_bitsO _ _) (by have := HML8.out; omega)).mono ?_
                      rintro e w8 ⟨v8, rfl, hA8⟩
                      have HI8 := Lib.hid (HI7.out.step hA8)
                      have HRT8 := Lib.hid (HRT7.out.grown hA8.gr (fun e => HAP7.out _ e.symm rfl))
                      have HAP8 := Lib.hid (fresh_not hA8.fr HRT7.out.lt HAP7.out)
                      have HB8 : RowKit.Hid (w.heap.size ≤ w8.heap.size) := Lib.hid (Nat.le_trans HB7.out hA8.gr.size)
                      have q2 : w8.cell? ⟨G, 2, none⟩ = some (.int .i64 (Dd : Int)) := by rw [HRT8.out.cell 2]; exact HV8.out
                      clear hA8
                      go_simp
                      refine hK _ _ ?_
                      clear hK K
                      refine wpAny_ready (rs := [11]) (by kernel_rfl) (by simp) ?_
                      refine AllReady.cons rfl (fun K hK => ?_) AllReady.nil
                      go_simp
                      go_wp2_with fail
                      refine (rput_any w.heap.size _ _ (Dd - distSum y) (distMore y) _ HI8.out.own HB8.out (by omega) (by omega) (by have := HML8.out; simp only [List.length_append]; omega)).mono ?_
                      rintro e w9 ⟨v9, rfl, hA9⟩
                      have HI9 := Lib.hid (HI8.out.step hA9)
                      have HRT9 := Lib.hid (HRT8.out.grown hA9.gr (fun e => HAP8.out _ e.symm rfl))
                      have HAP9 := Lib.hid (fresh_not hA9.fr HRT8.out.lt HAP8.out)
                      have HB9 : RowKit.Hid (w.heap.size ≤ w9.heap.size) := Lib.hid (Nat.le_trans HB8.out hA9.gr.size)
                      clear hA9 q2
                      go_simp
                      refine hK _ _ ?_
                      clear hK K
                      refine wpAny_take (i := 12) (v := ?_) rfl (by kernel_rfl) (by kernel_rfl) (by kernel_rfl) (fun _ _ _ h => h) (Or.inl ⟨by rfl, ?_⟩) ?_
                      rotate_left
                      · intro w
                        go_simp
                        try with_reducible rfl
                      refine wpAny_done (by kernel_rfl) ?_ _
                      have hI9 := HI9.out
                      rw [HM3.out] at hI9
                      have HI10 := Lib.hid hI9
                      clear hI9
                      go_wp2_with fail
                      go_roundw
                      case rel => exact ⟨k + 1, rfl, by omega, HI10.out⟩
                      case measure => simp [intOf]; omega
                  · go_simp
                    refine hK _ _ ?_
                    clear hK K
                    refine wpAny_take (i := 9) (v := ?_) rfl (by kernel_rfl) (by kernel_rfl) (by kernel_rfl) (fun _ _ _ h => h) (Or.inl ⟨by rfl, ?_⟩) ?_
                    rotate_left
                    · intro w
                      go_simp
                      try with_reducible rfl
                    refine wpAny_ready (rs := [4]) (by kernel_rfl) (by simp) ?_
                    refine AllReady.cons rfl (fun K hK => ?_) AllReady.nil
                    go_simp
                    refine hK _ _ ?_
                    clear hK K
                    refine wpAny_ready (rs := [5]) (by kernel_rfl) (by simp) ?_
                    refine AllReady.cons rfl (fun K hK => ?_) AllReady.nil
                    go_simp
                    go_wp2_with fail
                    refine (rcode_any w.heap.size _ M2 (bitsO fixB (y : Nat)) _ HI7.out.own HB7.out (bin_bitsO _ _) (by have := HML8.out; omega)).mono ?_
                    rintro e w8 ⟨v8, rfl, hA8⟩
                    have HI8 := Lib.hid (HI7.out.step hA8)
                    have HRT8 := Lib.hid (HRT7.out.grown hA8.gr (fun e => HAP7.out _ e.symm rfl))
                    have HAP8 := Lib.hid (fresh_not hA8.fr HRT7.out.lt HAP7.out)
                    have HB8 : RowKit.Hid (w.heap.size ≤ w8.heap.size) := Lib.hid (Nat.le_trans HB7.out hA8.gr.size)
                    have q2 : w8.cell? ⟨G, 2, none⟩ = some (.int .i64 (Dd : Int)) := by rw [HRT8.out.cell 2]; exact HV8.out
                    clear hA8
                    go_simp
                    refine hK _ _ ?_
                    clear hK K
                    refine wpAny_ready (rs := [11]) (by kernel_rfl) (by simp) ?_
                    refine AllReady.cons rfl (fun K hK => ?_) AllReady.nil
                    go_simp
                    go_wp2_with fail
                    refine (rput_any w.heap.size _ _ (Dd - distSum y) (distMore y) _ HI8.out.own HB8.out (by omega) (by omega) (by have := HML8.out; simp only [List.length_append]; omega)).mono ?_
                    rintro e w9 ⟨v9, rfl, hA9⟩
                    have HI9 := Lib.hid (HI8.out.step hA9)
                    have HRT9 := Lib.hid (HRT8.out.grown hA9.gr (fun e => HAP8.out _ e.symm rfl))
                    have HAP9 := Lib.hid (fresh_not hA9.fr HRT8.out.lt HAP8.out)
                    have HB9 : RowKit.Hid (w.heap.size ≤ w9.heap.size) := Lib.hid (Nat.le_trans HB8.out hA9.gr.size)
                    clear hA9 q2
                    go_simp
                    refine hK _ _ ?_
                    clear hK K
                    refine wpAny_take (i := 12) (v := ?_) rfl (by kernel_rfl) (by kernel_rfl) (by kernel_rfl) (fun _ _ _ h => h) (Or.inl ⟨by rfl, ?_⟩) ?_
                    rotate_left
                    · intro w
                      go_simp
                      try with_reducible rfl
                    refine wpAny_done (by kernel_rfl) ?_ _
                    have hI9 := HI9.out
                    rw [HM3.out] at hI9
                    have HI10 := Lib.hid hI9
                    clear hI9
                    go_wp2_with fail
                    go_roundw
                    case rel => exact ⟨k + 1, rfl, by omega, HI10.out⟩
                    case measure => simp [intOf]; omega
    · have hkm : k = m := by omega
      subst hkm
      have HXT : RowKit.Hid ((D.take k) = D) := Lib.hid (List.take_of_length_le (by rw [HDL.out]; exact Nat.le_refl _))
      rw [HXT.out] at HI HLM
      have r0 : wr.cell? ⟨pa, 256, none⟩ = some (.string (strB (bitsO fixA (256 : Nat)))) := by rw [← strAt_B]; exact HI.out.ra.sa (by decide)
      have HBL : RowKit.Hid ((bitsO fixA (256 : Nat)).length ≤ 100) := Lib.hid (by rw [bitsO_length]; decide +kernel)
      obtain ⟨Au, cu, hu⟩ := HI.out.own.slice
      have HBX : RowKit.Hid (Bin X) := Lib.hid (by rw [← HX2.out]; exact ((bin_lowB 3 3).append (bin_flat D)).append (bin_bitsO _ _))
      generalize [1, 1, 0] ++ D.flatMap tokB = M at HI HLM HX2 hu
      subst hu
      generalize M.length = ml at HI ⊢
      go_wp2_with fail
      refine (rcode_any w.heap.size _ M (bitsO fixA (256 : Nat)) wr HI.out.own HBW.out (bin_bitsO _ _) (by have := HLM.out; have := HBL.out; omega)).mono ?_
      rintro e w3 ⟨v3, rfl, hA3⟩
      have hXL : X.length ≤ 1000000 := by rw [← HX2.out, List.length_append]; have := HLM.out; have := HBL.out; omega
      have hI3 := HI.out.step hA3
      rw [HX2.out] at hI3
      obtain ⟨A3, c3, hv3⟩ := hI3.own.slice
      have hd3 := (show Own w3 w.heap.size (.slice A3 X.length c3) X from hv3 ▸ hI3.own).rd
      generalize X.length = xl at hXL hv3 hd3
      subst hv3
      have HD3 : RowKit.Hid (Rd w3 w3.heap.size A3 xl (us X)) := Lib.hid hd3.2
      have HB3 := Lib.hid hI3.below
      clear hA3 hI3 hd3 r0
      go_wp2_with fail
      refine (rtext_any A3 xl c3 X w3 HD3.out HBX.out hXL).mono ?_
      rintro e w4 ⟨u, rfl, ho, hb⟩
      have HF : RowKit.Hid (Own w4 w.heap.size u (textB X) ∧ Below w.heap.size w w4) := Lib.hid ⟨own_mono ho HB3.out.size, HB3.out.trans (hb.mono HB3.out.size)⟩
      clear ho hb
      go_wp2_with fail
      go_ret
      exact ⟨_, rfl, HF.out⟩
end Go.Proofs.YtpnnlhegncbfaaaDoor
