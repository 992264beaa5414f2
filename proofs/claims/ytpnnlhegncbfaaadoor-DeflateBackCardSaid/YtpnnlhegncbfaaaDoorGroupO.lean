
/- Contract of tokenBlock. -/

/- Tokens give the text back. -/

/- Packed bytes: what blocks of kind 0 come to. No program is named here: made ahead of the layer that will need it. -/
import Derived.Test.YtpnnlhegncbfaaaDoorGroupN
import Derived.Test.YtpnnlhegncbfaaaDoorGroupD
import Derived.Test.YtpnnlhegncbfaaaDoorGroupE
import Derived.Test.YtpnnlhegncbfaaaDoorGroupA
import Derived.Test.YtpnnlhegncbfaaaDoorGroupL
namespace Go.Proofs.YtpnnlhegncbfaaaDoor
set_option maxRecDepth 20000
open Go.RowKit

/-- A text as one block of kind 1, as bits. -/
def fixedM (l : List UInt8) : List UInt8 := [1, 1, 0] ++ (toksT l).flatMap tokB ++ bitsO fixA (256 : Nat)
def goodT (t : Tk) : Prop := t.l = 0 ∨ (3 ≤ t.l ∧ t.l ≤ 258 ∧ 1 ≤ t.d ∧ t.d ≤ 32768)
theorem look_three (t : List UInt8) (at_ most : Nat) : ∀ (p k : Nat) (b : Nat × Nat), (b.1 = 0 ∨ 3 ≤ b.1) → ((lookR t at_ most p k b).1 = 0 ∨ 3 ≤ (lookR t at_ most p k b).1)
  | 0, _, _, h => h
  | p + 1, k, b, h => by
    unfold lookR
    split
    · split
      · exact look_three t at_ most p k b h
      · rename_i h3
        refine look_three t at_ most p (k + 1) _ ?_
        split
        · exact .inr (by show 3 ≤ mlen t p at_ most; omega)
        · exact h
    · exact h
theorem tok_good (l : List UInt8) (q : Nat) : goodT (tokAt l q) := by
  unfold goodT tokAt tokF
  have h1 := best_good l q
  have h2 := look_three l q (mostF l.length q) q 0 (0, 0) (.inl rfl)
  rw [← best_look] at h2
  have h3 : mostF l.length q ≤ 258 := by unfold mostF; omega
  split
  · exact .inl rfl
  · right
    simp only
    omega
theorem toks_good (l : List UInt8) : ∀ F q, ∀ t ∈ toksF l F q, goodT t
  | 0, _, t, h => by cases h
  | F + 1, q, t, h => by
    unfold toksF at h
    split at h
    · rcases List.mem_cons.1 h with rfl | h
      · exact tok_good l q
      · exact toks_good l F _ t h
    · cases h
theorem toks_len (l : List UInt8) : ∀ F q, (toksF l F q).length ≤ F
  | 0, _ => Nat.le_refl _
  | F + 1, q => by
    unfold toksF
    split
    · have := toks_len l F (q + stepT l q); simp; omega
    · simp
theorem flat_length (D : List Tk) : (D.flatMap tokB).length ≤ 80 * D.length := by
  induction D with
  | nil => simp
  | cons t D ih => have := tokB_length t; simp only [List.flatMap_cons, List.length_append, List.length_cons]; omega
theorem OwnT.place {e : TypeId} {w : World} {B : Nat} {A : Option Addr} {n c : Nat} {l : List Tk} (h : OwnT e w B (.slice A n c) l) : ∀ g o, A = some ⟨g, o, none⟩ → B ≤ g ∧ g < w.heap.size := fun g o hA => by
  rcases h.2 with ⟨hv, _⟩ | ⟨g', cap, cur, hv, hb, hg, _⟩
  · injection hv with h1; rw [hA] at h1; cases h1
  · injection hv with h1
    rw [hA] at h1
    injection h1 with h1
    injection h1 with h1
    subst h1
    exact ⟨hb, (Array.getElem?_eq_some_iff.1 hg).1⟩
/-- What tokenBlock's loop keeps. -/
structure TB (w wr : World) (gw H a b : Nat) (A : Option Addr) (m : Nat) (D : List Tk) (v : Value) (M : List UInt8) : Prop where
  ps : PS wr gw gw v M (gw + 1) (H + 1) a b
  row : Row wr H #[.pointer (some ⟨gw, 0, none⟩), .pointer (some ⟨a, 0, none⟩), .pointer (some ⟨b, 0, none⟩)] 84
  toks : RdT wr wr.heap.size A m D
  ap : ∀ g o, A = some ⟨g, o, none⟩ → g ≠ gw ∧ g < wr.heap.size ∧ ∀ k, v.ownBlock = some k → k ≠ g
  below : Below gw w wr
theorem TB.step {w wr w' : World} {gw H a b : Nat} {A : Option Addr} {m : Nat} {D : List Tk} {v v' : Value} {M M' : List UInt8} (h : TB w wr gw H a b A m D v M) (hP : PS w' gw gw v' M' (gw + 1) (H + 1) a b) (hS : St wr gw v w' v') :
    TB w w' gw H a b A m D v' M' := by
  have hHg : H ≠ gw := fun e => by
    have h1 := h.row
    have h2 := h.ps.wm.wr.row
    subst e
    have := (h1.inj h2).2
    exact absurd this (by decide)
  refine ⟨hP, hS.row h.row hHg (fun k hk => by have := h.ps.own k hk; omega), ⟨h.toks.1, fun h0 => ?_⟩, fun g o hA => ?_, h.below.trans (hS.below h.ps.wm.wr h.ps.hB (Nat.le_refl _))⟩
  · obtain ⟨g, o, hA, hg, hc⟩ := h.toks.2 h0
    obtain ⟨h1, h2, h3⟩ := h.ap g o hA
    exact ⟨g, o, hA, Nat.lt_of_lt_of_le hg hS.size, fun i x hx j u hu => (World.cell?_of_block (w := wr) (a := ⟨g, o + (i * 3 + j), none⟩) (hS.block g h2 h1 (fun e => h3 g e rfl))).trans (hc i x hx j u hu)⟩
  · obtain ⟨h1, h2, h3⟩ := h.ap g o hA
    exact ⟨h1, Nat.lt_of_lt_of_le h2 hS.size, hS.apart h2 h3⟩
set_option maxHeartbeats 4000000 in
set_option maxRecDepth 10000 in
theorem tokenBlock_any (A : Option Addr) (n c : Nat) (l : List UInt8) (w : World) (hr : Rd w w.heap.size A n (us l)) (hn : n ≤ 30000) :
    Calls Tryd.prog 37 #[.slice A n c] w fun e w' => ∃ v, e = .returned v ∧ Own w' w.heap.size v (textB (fixedM l)) ∧ Below w.heap.size w w' := by
  have HL : RowKit.Hid (l.length = n) := Lib.hid (by have := hr.1; rwa [us_length] at this)
  obtain ⟨X, HX⟩ : ∃ X, RowKit.Hid (fixedM l = X) := ⟨_, Lib.hid rfl⟩
  rw [HX.out]
  have HR := Lib.hid hr
  clear hr
  go_enter Tryd.func37, Tryd.ntmps37
  go_wp2_with fail
  refine (fixed_any w).mono ?_
  rintro e w2 ⟨p, q, rfl, hp, hq, hb2, hp2, hq2, hpq⟩
  have HO2 := Lib.hid (hq.ownI (B := w.heap.size) (n := 30) is_fixB (by decide) (by decide) hq2)
  have HP2 := Lib.hid hp
  have HB2 := Lib.hid hb2
  have HQ2 : RowKit.Hid (w.heap.size ≤ w2.heap.size ∧ w.heap.size ≤ q ∧ p ≠ q) := Lib.hid ⟨hb2.size, hq2, hpq⟩
  clear hp hq hb2 hp2 hq2 hpq
  go_wp2_with (at_builtin; refine pushI w2 rfl (.tmp 12) (.tmp 13) rfl w.heap.size _ (List.replicate 30 5) [5, 5] _ 2 rfl rfl HO2.out rfl rfl HQ2.out.1 (by decide) ?_)
  intro v3 w3 ho3 hg3 hf3
  have hq3 : ∀ b, (Value.slice (some ⟨q, 0, none⟩) 30 30).ownBlock = some b → q = b := fun b hb => by injection hb
  have hp3 := HP2.out.grown hg3 (fun e => HQ2.out.2.2 (hq3 _ e.symm).symm)
  have HB3 := Lib.hid (HB2.out.grown hg3 HQ2.out.1 (fun b hb => by have := hq3 b hb; have := HQ2.out.2.1; omega))
  obtain ⟨A3, c3, hv3⟩ := ho3.slice
  have hv3 : v3 = .slice A3 32 c3 := hv3
  subst hv3
  have HK3 : RowKit.Hid (A3 = none → c3 = 0) := Lib.hid ho3.capz
  have HD3 : RowKit.Hid (Rd w3 w3.heap.size A3 32 (is (ints64 fixB))) := Lib.hid (by rw [fixB_ints]; exact ho3.rd.2)
  have HA3 : RowKit.Hid (Rd w3 w3.heap.size (some ⟨p, 0, none⟩) 288 (is (ints64 fixA))) := Lib.hid (by rw [is_fixA]; exact hp3.rdI hp3.lt)
  clear ho3 hg3 hf3 hq3 hp3 HO2 HP2 HB2 HQ2
  go_wp2_with fail
  refine (newWriter_any w3).mono ?_
  rintro e w4 ⟨rfl, hW4, hg4⟩
  have HW4 := Lib.hid hW4
  have HA4 := Lib.hid (HA3.out.next (below_make hg4))
  have HD4 := Lib.hid (HD3.out.next (below_make hg4))
  have HB4 := Lib.hid (HB3.out.trans ((below_make hg4).mono HB3.out.size))
  have HG4 : RowKit.Hid (w.heap.size ≤ w3.heap.size ∧ w3.heap.size + 1 ≤ w4.heap.size) := Lib.hid ⟨HB3.out.size, hW4.wr.row.lt⟩
  clear hW4 hg4 HA3 HD3 HB3
  go_wp2_with fail
  refine (codeOf_any (some ⟨p, 0, none⟩) 288 288 fixA w4 HA4.out (fun h => by cases h) (by decide +kernel) newA).mono ?_
  rintro e w5 ⟨hb5, a, rfl, hl5⟩
  have HW5 := Lib.hid (HW4.out.grow (grown_of_below hb5))
  have HD5 := Lib.hid (HD4.out.next hb5)
  have HB5 := Lib.hid (HB4.out.trans (hb5.mono HB4.out.size))
  have HL5 := Lib.hid hl5
  have HS5 := Lib.hid hb5.size
  clear hb5 hl5 HW4 HA4 HD4 HB4
  go_wp2_with fail
  refine (codeOf_any A3 32 c3 fixB w5 HD5.out HK3.out (by decide +kernel) newB).mono ?_
  rintro e w6 ⟨hb6, b, rfl, hl6⟩
  have hg7 := (grown_of_below hb6).trans (World.grownBy_alloc w6 (.cells #[.pointer (some ⟨w3.heap.size, 0, none⟩), .pointer (some ⟨a, 0, none⟩), .pointer (some ⟨b, 0, none⟩)] 84) none)
  have HPS : RowKit.Hid (PS (w6.alloc (.cells #[.pointer (some ⟨w3.heap.size, 0, none⟩), .pointer (some ⟨a, 0, none⟩), .pointer (some ⟨b, 0, none⟩)] 84)) w3.heap.size w3.heap.size (.slice none 0 0) [] (w3.heap.size + 1) (w6.heap.size + 1) a b) := Lib.hid
    ⟨HW5.out.grow hg7, by have := hb6.size; have := HS5.out; have := HG4.out; simp; omega, by omega, (fun k hk => by cases hk),
      (HL5.out.keep (fun k _ k2 => hg7.block k k2 (by simp))).wide HG4.out.2 (by have := hb6.size; omega),
      (hl6.keep (fun k _ k2 => (World.grownBy_alloc w6 _ none).block k k2 (by simp))).wide (by have := HS5.out; have := HG4.out; omega) (by omega), by simp⟩
  have HRW : RowKit.Hid (Row (w6.alloc (.cells #[.pointer (some ⟨w3.heap.size, 0, none⟩), .pointer (some ⟨a, 0, none⟩), .pointer (some ⟨b, 0, none⟩)] 84)) w6.heap.size #[.pointer (some ⟨w3.heap.size, 0, none⟩), .pointer (some ⟨a, 0, none⟩), .pointer (some ⟨b, 0, none⟩)] 84) := Lib.hid (heap_alloc_new w6 _)
  have HB7 : RowKit.Hid (Below w.heap.size w (w6.alloc (.cells #[.pointer (some ⟨w3.heap.size, 0, none⟩), .pointer (some ⟨a, 0, none⟩), .pointer (some ⟨b, 0, none⟩)] 84))) := Lib.hid (HB5.out.trans ((below_make hg7).mono HB5.out.size))
  clear hb6 hl6 hg7 HW5 HL5 HD5 HB5 HS5
  have HR7 : RowKit.Hid (Rd (w6.alloc (.cells #[.pointer (some ⟨w3.heap.size, 0, none⟩), .pointer (some ⟨a, 0, none⟩), .pointer (some ⟨b, 0, none⟩)] 84)) w.heap.size A n (us l)) := Lib.hid (HR.out.below HB7.out)
  have HG7 : RowKit.Hid (w.heap.size ≤ w3.heap.size ∧ w6.heap.size ≠ w3.heap.size) := Lib.hid ⟨HG4.out.1, fun e => by
    have h1 := HRW.out
    have h2 := HPS.out.wm.wr.row
    rw [e] at h1
    have := (h1.inj h2).2
    exact absurd this (by decide)⟩
  go_wp2_with fail
  refine (begin_any2 w3.heap.size w3.heap.size (some ⟨a, 0, none⟩) (some ⟨b, 0, none⟩) true 1 [] (.slice none 0 0) _ HPS.out.wm HPS.out.hB (by decide) (by decide)).mono ?_
  rintro e w8 ⟨rfl, v8, hW8, hS8⟩
  generalize hw7 : w6.alloc (.cells #[.pointer (some ⟨w3.heap.size, 0, none⟩), .pointer (some ⟨a, 0, none⟩), .pointer (some ⟨b, 0, none⟩)] 84) = w7 at HPS HRW HB7 HR7 hS8
  clear hw7
  generalize hH : w6.heap.size = H at HPS HRW HG7 hW8 hS8 ⊢
  generalize hgw : w3.heap.size = gw at HPS HRW HG7 hW8 hS8 ⊢
  clear hH hgw HG4
  rw [show ([] : List UInt8) ++ (lowB (if true = true then 1 else 0) 1 ++ lowB 1 2) = [1, 1, 0] by decide] at hW8
  have HP8 := Lib.hid (HPS.out.step hW8 hS8)
  have HS8 := Lib.hid hS8
  have HR8 := Lib.hid (hS8.row HRW.out HG7.out.2 (fun k hk => by cases hk))
  have HB8 : RowKit.Hid (Below gw w7 w8) := Lib.hid (hS8.below HPS.out.wm.wr HPS.out.hB (Nat.le_refl _))
  have HD8 : RowKit.Hid (Rd w8 w8.heap.size A n (us l)) := Lib.hid ((HR7.out.below (HB8.out.mono HG7.out.1)).more (Nat.le_trans HB7.out.size HS8.out.size))
  clear hW8 hS8
  go_wp2_with fail
  refine (tokens_any A n c l w8 HD8.out (by omega)).mono ?_
  rintro e w9 ⟨v9, rfl, ho9, hb9⟩
  obtain ⟨A9, c9, rfl, hz9, hd9⟩ := ho9.rd
  have HI9 : RowKit.Hid (TB w7 w9 gw H a b A9 (toksT l).length (toksT l) v8 [1, 1, 0]) := Lib.hid (by
    refine ⟨HP8.out.grow (grown_of_below hb9), HR8.out.grown (grown_of_below hb9) (by simp), hd9, fun g o hA => ?_, HB8.out.trans (hb9.mono HP8.out.hB)⟩
    have := ho9.place g o hA
    exact ⟨by have := HP8.out.hB; have := HP8.out.wm.wr.row.lt; omega, this.2, fun k hk => by have := (World.ownsRow.lt HP8.out.wm.wr.own k hk).2; omega⟩)
  have HT9 : RowKit.Hid ((toksT l).length ≤ n ∧ ∀ t ∈ toksT l, goodT t) := Lib.hid ⟨by have := toks_len l l.length 0; have := HL.out; unfold toksT; omega, toks_good l _ _⟩
  have HX2 : RowKit.Hid ([1, 1, 0] ++ (toksT l).flatMap tokB ++ bitsO fixA (256 : Nat) = X) := Lib.hid HX.out
  have hm : (toksT l).length ≤ n := HT9.out.1
  generalize hD : toksT l = D at HI9 HT9 HX2 hm ⊢
  generalize hDl : D.length = m at HI9 hm ⊢
  have HDL := Lib.hid hDl
  clear ho9 hb9 hz9 hd9 HP8 HS8 HR8 HB8 HD8 hD hDl
  have HPG : RowKit.Hid (gw ≤ w7.heap.size) := Lib.hid HPS.out.hB
  clear HPS HRW HR7
  go_wp2_with fail
  go_loopw [26] (fun i wr => ∃ (k : Nat) (v : Value), i = .int .i64 (k : Int) ∧ k ≤ m ∧ TB w7 wr gw H a b A9 m D v ([1, 1, 0] ++ (D.take k).flatMap tokB)) (fun i _ => m - (intOf i).toNat)
  case atStart => exact ⟨0, v8, rfl, Nat.zero_le _, HI9.out⟩
  case round =>
    clear HI9
    obtain ⟨k, v, rfl, hk, hI⟩ := hrel
    have HI := Lib.hid hI
    clear hI
    have HLM : RowKit.Hid (([1, 1, 0] ++ (D.take k).flatMap tokB : List UInt8).length ≤ 2400003) := Lib.hid (by
      have h1 := flat_length (D.take k)
      have h2 : (D.take k).length ≤ 30000 := by rw [List.length_take]; have := HDL.out; omega
      rw [List.length_append]
      simp only [List.length_cons, List.length_nil]
      omega)
    by_cases hlt : k < m
    · have d1 : decide ((k : Int) < (m : Int)) = true := decide_eq_true (by omega)
      obtain ⟨g, oo, t, hA, hg, ha, c0, c1, c2⟩ := HI.out.toks.cells hlt
      subst hA
      have HT : RowKit.Hid (D[k]? = some t ∧ goodT t) := Lib.hid ⟨ha, HT9.out.2 t (List.mem_of_getElem? ha)⟩
      have hg1 := World.grownBy_alloc wr (.cells #[U8 t.b, .int .i64 t.l, .int .i64 t.d] 44) none
      have HI1 := Lib.hid (HI.out.step (HI.out.ps.grow hg1) (St.none hg1))
      have hrt : Row (wr.alloc (.cells #[U8 t.b, .int .i64 t.l, .int .i64 t.d] 44)) wr.heap.size #[U8 t.b, .int .i64 t.l, .int .i64 t.d] 44 := heap_alloc_new wr _
      have q0 : (wr.alloc (.cells #[U8 t.b, .int .i64 t.l, .int .i64 t.d] 44)).cell? ⟨wr.heap.size, 0, none⟩ = some (.int .u8 (t.b.toNat : Int)) := hrt.cell 0
      have q1 : (wr.alloc (.cells #[U8 t.b, .int .i64 t.l, .int .i64 t.d] 44)).cell? ⟨wr.heap.size, 1, none⟩ = some (.int .i64 t.l) := hrt.cell 1
      have q2 : (wr.alloc (.cells #[U8 t.b, .int .i64 t.l, .int .i64 t.d] 44)).cell? ⟨wr.heap.size, 2, none⟩ = some (.int .i64 t.d) := hrt.cell 2
      have k0 : (wr.alloc (.cells #[U8 t.b, .int .i64 t.l, .int .i64 t.d] 44)).cell? ⟨H, 0, none⟩ = some (.pointer (some ⟨gw, 0, none⟩)) := HI1.out.row.cell 0
      have k1 : (wr.alloc (.cells #[U8 t.b, .int .i64 t.l, .int .i64 t.d] 44)).cell? ⟨H, 1, none⟩ = some (.pointer (some ⟨a, 0, none⟩)) := HI1.out.row.cell 1
      have k2 : (wr.alloc (.cells #[U8 t.b, .int .i64 t.l, .int .i64 t.d] 44)).cell? ⟨H, 2, none⟩ = some (.pointer (some ⟨b, 0, none⟩)) := HI1.out.row.cell 2
      clear ha hg hg1 hrt
      go_wp2_with fail
      refine (token_any gw gw (gw + 1) (H + 1) a b t v _ _ HI1.out.ps HT.out.2 (by have := HLM.out; omega)).mono ?_
      rintro e w3 ⟨rfl, v3, hP3, hS3⟩
      have hI3 := HI1.out.step hP3 hS3
      rw [show ([1, 1, 0] ++ (D.take k).flatMap tokB ++ tokB t : List UInt8) = [1, 1, 0] ++ (D.take (k + 1)).flatMap tokB by
        rw [List.take_add_one, HT.out.1]; simp] at hI3
      have HI3 := Lib.hid hI3
      clear hP3 hS3 hI3 q0 q1 q2 k0 k1 k2 c0 c1 c2
      go_wp2_with fail
      go_roundw
      case rel => exact ⟨k + 1, v3, rfl, by omega, HI3.out⟩
      case measure => simp [intOf]; omega
    · have hkm : k = m := by omega
      subst hkm
      have k0 : wr.cell? ⟨H, 0, none⟩ = some (.pointer (some ⟨gw, 0, none⟩)) := HI.out.row.cell 0
      have k1 : wr.cell? ⟨H, 1, none⟩ = some (.pointer (some ⟨a, 0, none⟩)) := HI.out.row.cell 1
      have k2 : wr.cell? ⟨H, 2, none⟩ = some (.pointer (some ⟨b, 0, none⟩)) := HI.out.row.cell 2
      go_wp2_with fail
      refine (sign_any2 (H + 1) a gw gw (some ⟨a, 0, none⟩) (some ⟨b, 0, none⟩) fixA 256 _ v wr (HI.out.ps.ca wr (fun _ _ _ => rfl)) HI.out.ps.hK (by decide +kernel) HI.out.ps.wm HI.out.ps.hB (by have := HLM.out; omega)).mono ?_
      rintro e w3 ⟨rfl, v3, hW3, hS3⟩
      rw [List.take_of_length_le (by rw [HDL.out]; exact Nat.le_refl _), HX2.out] at hW3
      have HI3 : RowKit.Hid (WM w3 gw gw v3 X ∧ Row w3 H #[.pointer (some ⟨gw, 0, none⟩), .pointer (some ⟨a, 0, none⟩), .pointer (some ⟨b, 0, none⟩)] 84 ∧ Below gw wr w3) := Lib.hid
        ⟨hW3, hS3.row HI.out.row HG7.out.2 (fun k hk => by have := HI.out.ps.own k hk; omega), hS3.below HI.out.ps.wm.wr HI.out.ps.hB (Nat.le_refl _)⟩
      have HXL : RowKit.Hid (X.length ≤ 7000000) := Lib.hid (by
        have := HLM.out
        rw [← HX2.out, List.length_append, bitsO_length]
        have h3 : lenI fixA (256 : Nat) = 7 := by decide +kernel
        rw [List.take_of_length_le (by rw [HDL.out]; exact Nat.le_refl _)] at this
        omega)
      clear hW3 hS3 k0 k1 k2
      have k0 : w3.cell? ⟨H, 0, none⟩ = some (.pointer (some ⟨gw, 0, none⟩)) := HI3.out.2.1.cell 0
      go_wp2_with fail
      refine (wtext_any gw gw X v3 w3 HI3.out.1 HXL.out).mono ?_
      rintro e w4 ⟨u, rfl, ho, hg⟩
      have HF : RowKit.Hid (Own w4 w.heap.size u (textB X) ∧ Below w.heap.size w w4) := Lib.hid (by
        have h1 := HI.out.below.trans HI3.out.2.2
        have h2 := h1.trans ((below_make hg).mono (Nat.le_trans HPG.out h1.size))
        exact ⟨own_mono ho (Nat.le_trans HG7.out.1 (Nat.le_trans HPG.out h1.size)), HB7.out.trans (h2.mono HG7.out.1)⟩)
      clear ho hg k0
      go_wp2_with fail
      go_ret
      exact ⟨_, rfl, HF.out.1, HF.out.2⟩
end Go.Proofs.YtpnnlhegncbfaaaDoor
namespace Go.Proofs.YtpnnlhegncbfaaaDoor
set_option maxRecDepth 20000

theorem mt_same {t : List UInt8} {p q : Nat} : ∀ k n j, n ≤ j → j < mt t p q k n → t.getD (p + j) 0 = t.getD (q + j) 0
  | 0, n, j, h1, h2 => by unfold mt at h2; omega
  | k + 1, n, j, h1, h2 => by
    unfold mt at h2
    split at h2
    · rename_i he
      by_cases hj : j = n
      · subst hj; exact he
      · exact mt_same k (n + 1) j (by omega) h2
    · omega
/-- What a look back finds is there. -/
def sameB (t : List UInt8) (at_ : Nat) (b : Nat × Nat) : Prop := ∀ j, j < b.1 → t.getD (at_ - b.2 + j) 0 = t.getD (at_ + j) 0
theorem look_same (t : List UInt8) (at_ most : Nat) : ∀ (p k : Nat) (b : Nat × Nat), p ≤ at_ → sameB t at_ b → sameB t at_ (lookR t at_ most p k b)
  | 0, _, _, _, h => h
  | p + 1, k, b, hp, h => by
    unfold lookR
    split
    · split
      · exact look_same t at_ most p k b (by omega) h
      · refine look_same t at_ most p (k + 1) _ (by omega) ?_
        split
        · intro j hj
          have hj : j < mlen t p at_ most := hj
          have := mt_same most 0 j (Nat.zero_le _) hj
          show t.getD (at_ - (at_ - p) + j) 0 = _
          rw [show at_ - (at_ - p) = p by omega]
          exact this
        · exact h
    · exact h
theorem best_same (t : List UInt8) (at_ : Nat) : sameB t at_ (bestT t at_) := by
  rw [best_look]
  exact look_same t at_ _ _ _ _ (Nat.le_refl _) (fun j hj => by cases hj)
theorem take_one {t : List UInt8} {q : Nat} (h : q < t.length) : t.take q ++ [t.getD q 0] = t.take (q + 1) := by
  rw [List.take_add_one, List.getElem?_eq_getElem h, List.getD_eq_getElem?_getD, List.getElem?_eq_getElem h]
  rfl
theorem copy_take {t : List UInt8} {D : Nat} (hD : 1 ≤ D) : ∀ L q, D ≤ q → q + L ≤ t.length → (∀ j, j < L → t.getD (q - D + j) 0 = t.getD (q + j) 0) → copyN D L (t.take q) = t.take (q + L)
  | 0, q, _, _, _ => rfl
  | L + 1, q, h1, h2, h3 => by
    have hq : (t.take q).length = q := by rw [List.length_take]; omega
    unfold copyN
    have e : (t.take q).getD ((t.take q).length - D) 0 = t.getD q 0 := by
      rw [hq, List.getD_eq_getElem?_getD, List.getElem?_take, if_pos (by omega), ← List.getD_eq_getElem?_getD]
      have := h3 0 (by omega)
      simpa using this
    rw [e, take_one (by omega), copy_take hD L (q + 1) (by omega) (by omega) (fun j hj => by
      have := h3 (j + 1) (by omega)
      rw [show q + 1 - D + j = q - D + (j + 1) by omega, show q + 1 + j = q + (j + 1) by omega]
      exact this), show q + 1 + L = q + (L + 1) by omega]
theorem best_three (t : List UInt8) (q : Nat) : (bestT t q).1 = 0 ∨ 3 ≤ (bestT t q).1 := by
  rw [best_look]
  exact look_three t q _ _ _ _ (.inl rfl)
theorem step_take {t : List UInt8} {q : Nat} (hq : q < t.length) (hl : t.length ≤ 1000000) : refuse (tokAt t q) (t.take q).length = 0 ∧ putT (tokAt t q) (t.take q) = t.take (q + stepT t q) ∧ q + stepT t q ≤ t.length := by
  have h0 : (t.take q).length = q := by rw [List.length_take]; omega
  rw [h0]
  have hs := best_same t q
  have h3 := best_three t q
  have hg := best_good t q
  unfold tokAt stepT
  generalize bestT t q = b at hs h3 hg
  obtain ⟨L, D⟩ := b
  simp only at hs h3 hg
  unfold tokF
  by_cases hL : L = 0
  · subst hL
    rw [if_pos rfl]
    refine ⟨?_, ?_, by simp; omega⟩
    · unfold refuse formed szI
      simp
      omega
    · unfold putT
      simp only [if_pos]
      rw [take_one hq]
      rfl
  · rw [if_neg hL]
    have hg2 : L ≤ mostF t.length q ∧ 1 ≤ D ∧ D ≤ q ∧ D ≤ 32768 := by
      rcases hg with h | h
      · exact absurd h hL
      · exact ⟨h.1, h.2.1, h.2.2.1, h.2.2.2.1⟩
    have hm : mostF t.length q ≤ 258 ∧ mostF t.length q ≤ t.length - q := by unfold mostF; omega
    have hst : max 1 L = L := by omega
    refine ⟨?_, ?_, by simp only [hst]; omega⟩
    · have hf : formed ⟨0, (L : Int), (D : Int)⟩ = true := by
        unfold formed
        simp only
        rw [if_neg (by omega)]
        exact decide_eq_true ⟨by omega, by omega, by omega, trivial⟩
      unfold refuse
      rw [hf]
      simp only
      rw [if_neg (by decide), if_neg (by omega), if_neg (by unfold szI; split <;> omega)]
    · unfold putT
      simp only
      rw [if_neg (by omega), hst]
      exact copy_take (D := D) hg2.2.1 L q hg2.2.2.1 (by omega) hs
theorem untok_from {t : List UInt8} (hl : t.length ≤ 1000000) : ∀ F q, q ≤ t.length → t.length - q ≤ F → untokF (toksF t F q) (t.take q) = .ok t
  | 0, q, h1, h2 => by
    have : q = t.length := by omega
    subst this
    unfold toksF untokF
    rw [List.take_length]
  | F + 1, q, h1, h2 => by
    unfold toksF
    by_cases hq : q < t.length
    · obtain ⟨a, b, c⟩ := step_take hq hl
      rw [if_pos hq, untokF, if_pos a, b]
      have hs : 1 ≤ stepT t q := by unfold stepT; omega
      exact untok_from hl F _ c (by omega)
    · have : q = t.length := by omega
      subst this
      rw [if_neg hq, untokF, List.take_length]
/-- Untokens takes back what Tokens gives. -/
theorem untok_toks {t : List UInt8} (hl : t.length ≤ 1000000) : untokF (toksT t) [] = .ok t := untok_from hl t.length 0 (Nat.zero_le _) (Nat.le_refl _)
end Go.Proofs.YtpnnlhegncbfaaaDoor
namespace Go.Proofs.YtpnnlhegncbfaaaDoor
set_option maxRecDepth 20000

theorem bitsL_cons (x : UInt8) (l : List UInt8) : bitsL (x :: l) = lowB x.toNat 8 ++ bitsL l := by
  rw [show x :: l = [x] ++ l from rfl, bitsL_append, bitsL_one]
theorem bitsL_drop (l : List UInt8) (q : Nat) : (bitsL l).drop (8 * q) = bitsL (l.drop q) := by
  induction q generalizing l with
  | zero => rfl
  | succ q ih =>
    cases l with
    | nil => simp [bitsL]
    | cons x l =>
      rw [bitsL_cons, show 8 * (q + 1) = 8 + 8 * q by omega, ← List.drop_drop, List.drop_left' (lowB_length _ _), ih]; rfl
theorem byte_low (x : UInt8) : numB (lowB x.toNat 8) = x.toNat := by
  rw [numB_lowB]; have := x.toNat_lt; omega
theorem bytesB_bits : ∀ (n : Nat) (l : List UInt8), n ≤ l.length → bytesB (bitsL l) n = l.take n
  | 0, _, _ => rfl
  | n + 1, [], h => by simp at h
  | n + 1, x :: l, h => by
    rw [bytesB, bitsL_cons, List.take_left' (lowB_length _ _), List.drop_left' (lowB_length _ _), byte_low, bytesB_bits n l (by simpa using h)]
    simp
/-- A number of whole bytes at a whole byte. -/
theorem num_bytes {l : List UInt8} {q k : Nat} (h : q + k ≤ l.length) (lim : Nat) (o : List UInt8) (st : Nat) : numX (8 * k) (bitsL l) lim ⟨8 * q, o, st⟩ = .ok (numL ((l.drop q).take k), ⟨8 * (q + k), o, st⟩) := by
  unfold numX
  rw [if_neg (by rw [bitsL_length]; show ¬ 8 * l.length < 8 * q + 8 * k; omega)]
  show Except.ok (numB (((bitsL l).drop (8 * q)).take (8 * k)), _) = _
  rw [bitsL_drop]
  have e : (bitsL (l.drop q)).take (8 * k) = bitsL ((l.drop q).take k) := by
    have h1 : bitsL (l.drop q) = bitsL ((l.drop q).take k) ++ bitsL ((l.drop q).drop k) := by rw [← bitsL_append, List.take_append_drop]
    rw [h1, List.take_left' (by rw [bitsL_length, List.length_take, List.length_drop]; omega)]
  rw [e, numB_bitsL]
  show Except.ok (_, Sx.mk (8 * q + 8 * k) o st) = _
  rw [show 8 * q + 8 * k = 8 * (q + k) by omega]
/-- A block of kind 0 as bytes. -/
def blk (i : Nat) (x : List UInt8) : List UInt8 :=
  [UInt8.ofNat i, UInt8.ofNat (x.length % 256), UInt8.ofNat (x.length / 256), UInt8.ofNat (255 - x.length % 256), UInt8.ofNat (255 - x.length / 256)] ++ x
theorem blk_length (i : Nat) (x : List UInt8) : (blk i x).length = x.length + 5 := by simp [blk]
theorem of_lt {k : Nat} (h : k < 256) : (UInt8.ofNat k).toNat = k := by rw [UInt8.toNat_ofNat']; omega
/-- The first three bits of such a block. -/
theorem bits3 {l : List UInt8} {q i : Nat} {r : List UInt8} (hl : l.drop q = UInt8.ofNat i :: r) (hi : i < 2) (lim : Nat) (o : List UInt8) (st : Nat) :
    numX 1 (bitsL l) lim ⟨8 * q, o, st⟩ = .ok (i, ⟨8 * q + 1, o, st⟩) ∧ numX 2 (bitsL l) lim ⟨8 * q + 1, o, st⟩ = .ok (0, ⟨8 * q + 3, o, st⟩) := by
  have hq : q < l.length := by
    apply Nat.lt_of_not_le
    intro h
    rw [List.drop_of_length_le h] at hl; cases hl
  have hL : 8 * q + 8 ≤ (bitsL l).length := by rw [bitsL_length]; omega
  have hd : (bitsL l).drop (8 * q) = lowB i 8 ++ bitsL r := by rw [bitsL_drop, hl, bitsL_cons, of_lt (by omega)]
  constructor
  · unfold numX
    rw [if_neg (by show ¬ (bitsL l).length < 8 * q + 1; omega)]
    show Except.ok (numB (((bitsL l).drop (8 * q)).take 1), _) = _
    rw [hd, List.take_append_of_le_length (by rw [lowB_length]; decide), lowB_take _ _ _ (by decide), numB_lowB, Nat.mod_eq_of_lt (by omega)]
  · unfold numX
    rw [if_neg (by show ¬ (bitsL l).length < 8 * q + 1 + 2; omega)]
    show Except.ok (numB (((bitsL l).drop (8 * q + 1)).take 2), _) = _
    have e : ((bitsL l).drop (8 * q + 1)).take 2 = ((lowB i 8).drop 1).take 2 := by
      rw [← List.drop_drop, hd, List.drop_append_of_le_length (by rw [lowB_length]; decide), List.take_append_of_le_length (by rw [List.length_drop, lowB_length]; decide)]
    rw [e, numB_part (bin_lowB i 8) 1 2 (by rw [lowB_length]; decide), numB_lowB]
    have : i % 2 ^ 8 / 2 ^ 1 % 2 ^ 2 = 0 := by
      rcases i with _ | _ | i
      · rfl
      · rfl
      · omega
    rw [this]
/-- A block of kind 0 among bytes. -/
theorem block_blk {l : List UInt8} {q i : Nat} {x r : List UInt8} (hl : l.drop q = blk i x ++ r) (hi : i < 2) (hx : x.length < 65536) (F lim : Nat) (o : List UInt8) (st : Nat) :
    blockX F (bitsL l) lim ⟨8 * q, o, st⟩ = if lim < o.length + x.length then .error 3 else .ok (decide (i = 1), ⟨8 * (q + 5 + x.length), o ++ x, st + 1 + x.length⟩) := by
  have hlen : q + 5 + x.length ≤ l.length := by
    have := congrArg List.length hl
    rw [List.length_drop, List.length_append, blk_length] at this
    omega
  have hl1 : l.drop q = UInt8.ofNat i :: ((blk i x).drop 1 ++ r) := by rw [hl]; rfl
  obtain ⟨b1, b2⟩ := bits3 hl1 hi lim o (st + 1)
  have hd1 : l.drop (q + 1) = (blk i x).drop 1 ++ r := by rw [← List.drop_drop, hl1]; rfl
  have n1 : numL ((l.drop (q + 1)).take 2) = x.length := by
    rw [hd1]
    show (UInt8.ofNat (x.length % 256)).toNat + 256 * ((UInt8.ofNat (x.length / 256)).toNat + 256 * 0) = _
    rw [of_lt (by omega), of_lt (by omega)]
    omega
  have n2 : numL ((l.drop (q + 1 + 2)).take 2) = 65535 - x.length := by
    have hd3 : l.drop (q + 1 + 2) = (blk i x).drop 3 ++ r := by rw [← List.drop_drop, hd1]; rfl
    rw [hd3]
    show (UInt8.ofNat (255 - x.length % 256)).toNat + 256 * ((UInt8.ofNat (255 - x.length / 256)).toNat + 256 * 0) = _
    rw [of_lt (by omega), of_lt (by omega)]
    omega
  have hd5 : l.drop (q + 5) = x ++ r := by
    rw [show q + 5 = q + 1 + 4 by omega, ← List.drop_drop, hd1]; rfl
  have m1 : numX 16 (bitsL l) lim ⟨8 * (q + 1), o, st + 1⟩ = .ok (x.length, ⟨8 * (q + 1 + 2), o, st + 1⟩) := by
    have := num_bytes (l := l) (q := q + 1) (k := 2) (by omega) lim o (st + 1)
    rwa [n1] at this
  have m2 : numX 16 (bitsL l) lim ⟨8 * (q + 1 + 2), o, st + 1⟩ = .ok (65535 - x.length, ⟨8 * (q + 1 + 2 + 2), o, st + 1⟩) := by
    have := num_bytes (l := l) (q := q + 1 + 2) (k := 2) (by omega) lim o (st + 1)
    rwa [n2] at this
  have ms : storeX x.length (bitsL l) lim ⟨8 * (q + 1 + 2 + 2), o, st + 1⟩ = if lim < o.length + x.length then .error 3 else .ok ((), ⟨8 * (q + 5 + x.length), o ++ x, st + 1 + x.length⟩) := by
    unfold storeX
    by_cases hc : lim < o.length + x.length
    · rw [if_pos hc, if_pos hc]
    · rw [if_neg hc, if_neg hc, if_neg (by rw [bitsL_length]; show ¬ 8 * l.length < 8 * (q + 1 + 2 + 2) + 8 * x.length; omega)]
      show Except.ok ((), Sx.mk (8 * (q + 1 + 2 + 2) + 8 * x.length) (o ++ bytesB ((bitsL l).drop (8 * (q + 1 + 2 + 2))) x.length) _) = _
      rw [bitsL_drop, show q + 1 + 2 + 2 = q + 5 by omega, hd5, bytesB_bits _ _ (by simp), List.take_left' rfl, show 8 * (q + 5) + 8 * x.length = 8 * (q + 5 + x.length) by omega]
  have ma : storedX (bitsL l) lim ⟨8 * q + 3, o, st + 1⟩ = if lim < o.length + x.length then .error 3 else .ok ((), ⟨8 * (q + 5 + x.length), o ++ x, st + 1 + x.length⟩) := by
    refine ok_bind (a := ()) (s1 := ⟨8 * (q + 1), o, st + 1⟩) ?_ (ok_bind m1 (ok_bind m2 ?_))
    · show Except.ok ((), Sx.mk ((8 * q + 3 + 7) / 8 * 8) o (st + 1)) = _
      rw [show (8 * q + 3 + 7) / 8 * 8 = 8 * (q + 1) by omega]
    · rw [if_neg (by omega)]; exact ms
  refine ok_bind (a := ()) (s1 := ⟨8 * q, o, st + 1⟩) rfl (ok_bind b1 (ok_bind b2 ?_))
  show bindX storedX (fun _ => pureX (decide (i = 1))) (bitsL l) lim ⟨8 * q + 3, o, st + 1⟩ = _
  unfold bindX
  rw [ma]
  by_cases hc : lim < o.length + x.length
  · rw [if_pos hc, if_pos hc]
  · rw [if_neg hc, if_neg hc]; rfl
/-- Two blocks of kind 0, the second one the last. -/
theorem infl_two (x y : List UInt8) (hx : x.length < 65536) (hy : y.length < 65536) (F lim : Nat) (hF : 2 ≤ F) :
    inflF F (bitsL (blk 0 x ++ blk 1 y)) lim = if lim < x.length + y.length then .error 3 else .ok ((), ⟨8 * (10 + x.length + y.length), x ++ y, x.length + y.length + 2⟩) := by
  obtain ⟨k, rfl⟩ : ∃ k, F = k + 2 := ⟨F - 2, by omega⟩
  have e1 := block_blk (l := blk 0 x ++ blk 1 y) (q := 0) (i := 0) (x := x) (r := blk 1 y) rfl (by decide) hx (k + 2) lim [] 0
  have hd : (blk 0 x ++ blk 1 y).drop (0 + 5 + x.length) = blk 1 y ++ [] := by
    rw [List.append_nil]
    exact List.drop_left' (by rw [blk_length]; omega)
  have e2 := block_blk (l := blk 0 x ++ blk 1 y) (q := 0 + 5 + x.length) (i := 1) (x := y) (r := []) hd (by decide) hy (k + 2) lim ([] ++ x) (0 + 1 + x.length)
  unfold inflF
  show bindX (blockX (k + 2)) _ _ lim ⟨8 * 0, [], 0⟩ = _
  unfold bindX
  rw [e1]
  by_cases c1 : lim < ([] : List UInt8).length + x.length
  · rw [if_pos c1, if_pos (by simp at c1; omega)]
  · rw [if_neg c1]
    show bindX (blockX (k + 2)) _ _ lim _ = _
    unfold bindX
    rw [e2]
    by_cases c2 : lim < ([] ++ x).length + y.length
    · rw [if_pos c2, if_pos (by simpa using c2)]
    · rw [if_neg c2, if_neg (by simpa using c2)]
      show Except.ok ((), Sx.mk _ _ _) = _
      rw [show 8 * (0 + 5 + x.length + 5 + y.length) = 8 * (10 + x.length + y.length) by omega, show 0 + 1 + x.length + 1 + y.length = x.length + y.length + 2 by omega]
      rfl
end Go.Proofs.YtpnnlhegncbfaaaDoor
