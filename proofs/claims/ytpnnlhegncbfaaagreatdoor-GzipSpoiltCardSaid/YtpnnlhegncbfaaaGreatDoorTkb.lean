
/- Contract of tokenBlock. -/
import Derived.Test.YtpnnlhegncbfaaaGreatDoorCdo
import Derived.Test.YtpnnlhegncbfaaaGreatDoorPlb
import Derived.Test.YtpnnlhegncbfaaaGreatDoorGroupS
namespace Go.Proofs.YtpnnlhegncbfaaaGreatDoor
set_option maxRecDepth 20000
open Go.RowKit

/-- A text as one block of kind 1, as bits. -/
def fixedM (l : List UInt8) : List UInt8 := [1, 1, 0] ++ (toksT l).flatMap tokB ++ bitsO fixA (256 : Nat)
def goodT (t : Tk) : Prop := t.l = 0 ∨ (3 ≤ t.l ∧ t.l ≤ 258 ∧ 1 ≤ t.d ∧ t.d ≤ 32768)
theorem look_three (t : List UInt8) (at_ most : Nat) : ∀ (p k : Nat) (b : Nat × Nat), (b.1 = 0 ∨ 3 ≤ b.1) → ((lookR t at_ most p k b).1 = 0 ∨ 3 ≤ (lookR t at_ most p k b).1)
  | 0, _, _, h => h
  | p + 1, k, b, h => by
    unfold lookR
    split
    · split
      · exact look_three t at_ most p k b h
      · rename_i h3
        refine look_three t at_ most p (k + 1) _ ?_
        split
        · exact .inr (by show 3 ≤ mlen t p at_ most; omega)
        · exact h
    · exact h
theorem tok_good (l : List UInt8) (q : Nat) : goodT (tokAt l q) := by
  unfold goodT tokAt tokF
  have h1 := best_good l q
  have h2 := look_three l q (mostF l.length q) q 0 (0, 0) (.inl rfl)
  rw [← best_look] at h2
  have h3 : mostF l.length q ≤ 258 := by unfold mostF; omega
  split
  · exact .inl rfl
  · right
    simp only
    omega
theorem toks_good (l : List UInt8) : ∀ F q, ∀ t ∈ toksF l F q, goodT t
  | 0, _, t, h => by cases h
  | F + 1, q, t, h => by
    unfold toksF at h
    split at h
    · rcases List.mem_cons.1 h with rfl | h
      · exact tok_good l q
      · exact toks_good l F _ t h
    · cases h
theorem toks_len (l : List UInt8) : ∀ F q, (toksF l F q).length ≤ F
  | 0, _ => Nat.le_refl _
  | F + 1, q => by
    unfold toksF
    split
    · have := toks_len l F (q + stepT l q); simp; omega
    · simp
theorem flat_length (D : List Tk) : (D.flatMap tokB).length ≤ 80 * D.length := by
  induction D with
  | nil => simp
  | cons t D ih => have := tokB_length t; simp only [List.flatMap_cons, List.length_append, List.length_cons]; omega
theorem OwnT.place {e : TypeId} {w : World} {B : Nat} {A : Option Addr} {n c : Nat} {l : List Tk} (h : OwnT e w B (.slice A n c) l) : ∀ g o, A = some ⟨g, o, none⟩ → B ≤ g ∧ g < w.heap.size := fun g o hA => by
  rcases h.2 with ⟨hv, _⟩ | ⟨g', cap, cur, hv, hb, hg, _⟩
  · injection hv with h1; rw [hA] at h1; cases h1
  · injection hv with h1
    rw [hA] at h1
    injection h1 with h1
    injection h1 with h1
    subst h1
    exact ⟨hb, (Array.getElem?_eq_some_iff.1 hg).1⟩
/-- What tokenBlock's loop keeps. -/
structure TB (w wr : World) (gw H a b : Nat) (A : Option Addr) (m : Nat) (D : List Tk) (v : Value) (M : List UInt8) : Prop where
  ps : PS wr gw gw v M (gw + 1) (H + 1) a b
  row : Row wr H #[.pointer (some ⟨gw, 0, none⟩), .pointer (some ⟨a, 0, none⟩), .pointer (some ⟨b, 0, none⟩)] 100
  toks : RdT wr wr.heap.size A m D
  ap : ∀ g o, A = some ⟨g, o, none⟩ → g ≠ gw ∧ g < wr.heap.size ∧ ∀ k, v.ownBlock = some k → k ≠ g
  below : Below gw w wr
theorem TB.step {w wr w' : World} {gw H a b : Nat} {A : Option Addr} {m : Nat} {D : List Tk} {v v' : Value} {M M' : List UInt8} (h : TB w wr gw H a b A m D v M) (hP : PS w' gw gw v' M' (gw + 1) (H + 1) a b) (hS : St wr gw v w' v') :
    TB w w' gw H a b A m D v' M' := by
  have hHg : H ≠ gw := fun e => by
    have h1 := h.row
    have h2 := h.ps.wm.wr.row
    subst e
    have := (h1.inj h2).2
    exact absurd this (by decide)
  refine ⟨hP, hS.row h.row hHg (fun k hk => by have := h.ps.own k hk; omega), ⟨h.toks.1, fun h0 => ?_⟩, fun g o hA => ?_, h.below.trans (hS.below h.ps.wm.wr h.ps.hB (Nat.le_refl _))⟩
  · obtain ⟨g, o, hA, hg, hc⟩ := h.toks.2 h0
    obtain ⟨h1, h2, h3⟩ := h.ap g o hA
    exact ⟨g, o, hA, Nat.lt_of_lt_of_le hg hS.size, fun i x hx j u hu => (World.cell?_of_block (w := wr) (a := ⟨g, o + (i * 3 + j), none⟩) (hS.block g h2 h1 (fun e => h3 g e rfl))).trans (hc i x hx j u hu)⟩
  · obtain ⟨h1, h2, h3⟩ := h.ap g o hA
    exact ⟨h1, Nat.lt_of_lt_of_le h2 hS.size, hS.apart h2 h3⟩
set_option maxHeartbeats 4000000 in
set_option maxRecDepth 10000 in
theorem tokenBlock_any (A : Option Addr) (n c : Nat) (l : List UInt8) (w : World) (hr : Rd w w.heap.size A n (us l)) (hn : n ≤ 30000) :
    Calls Tryz.prog 47 #[.slice A n c] w fun e w' => ∃ v, e = .returned v ∧ Own w' w.heap.size v (textB (fixedM l)) ∧ Below w.heap.size w w' := by
  have HL : RowKit.Hid (l.length = n) := Lib.hid (by have := hr.1; rwa [us_length] at this)
  obtain ⟨X, HX⟩ : ∃ X, RowKit.Hid (fixedM l = X) := ⟨_, Lib.hid rfl⟩
  rw [HX.out]
  have HR := Lib.hid hr
  clear hr
  go_enter Tryz.func47, Tryz.ntmps47
  go_wp2_with fail
  refine (fixed_any w).mono ?_
  rintro e w2 ⟨p, q, rfl, hp, hq, hb2, hp2, hq2, hpq⟩
  have HO2 := Lib.hid (hq.ownI (B := w.heap.size) (n := 30) is_fixB (by decide) (by decide) hq2)
  have HP2 := Lib.hid hp
  have HB2 := Lib.hid hb2
  have HQ2 : RowKit.Hid (w.heap.size ≤ w2.heap.size ∧ w.heap.size ≤ q ∧ p ≠ q) := Lib.hid ⟨hb2.size, hq2, hpq⟩
  clear hp hq hb2 hp2 hq2 hpq
  go_wp2_with (at_builtin; refine pushI w2 rfl (.tmp 12) (.tmp 13) rfl w.heap.size _ (List.replicate 30 5) [5, 5] _ 2 rfl rfl HO2.out rfl rfl HQ2.out.1 (by decide) ?_)
  intro v3 w3 ho3 hg3 hf3
  have hq3 : ∀ b, (Value.slice (some ⟨q, 0, none⟩) 30 30).ownBlock = some b → q = b := fun b hb => by injection hb
  have hp3 := HP2.out.grown hg3 (fun e => HQ2.out.2.2 (hq3 _ e.symm).symm)
  have HB3 := Lib.hid (HB2.out.grown hg3 HQ2.out.1 (fun b hb => by have := hq3 b hb; have := HQ2.out.2.1; omega))
  obtain ⟨A3, c3, hv3⟩ := ho3.slice
  have hv3 : v3 = .slice A3 32 c3 := hv3
  subst hv3
  have HK3 : RowKit.Hid (A3 = none → c3 = 0) := Lib.hid ho3.capz
  have HD3 : RowKit.Hid (Rd w3 w3.heap.size A3 32 (is (ints64 fixB))) := Lib.hid (by rw [fixB_ints]; exact ho3.rd.2)
  have HA3 : RowKit.Hid (Rd w3 w3.heap.size (some ⟨p, 0, none⟩) 288 (is (ints64 fixA))) := Lib.hid (by rw [is_fixA]; exact hp3.rdI hp3.lt)
  clear ho3 hg3 hf3 hq3 hp3 HO2 HP2 HB2 HQ2
  go_wp2_with fail
  refine (newWriter_any w3).mono ?_
  rintro e w4 ⟨rfl, hW4, hg4⟩
  have HW4 := Lib.hid hW4
  have HA4 := Lib.hid (HA3.out.next (below_make hg4))
  have HD4 := Lib.hid (HD3.out.next (below_make hg4))
  have HB4 := Lib.hid (HB3.out.trans ((below_make hg4).mono HB3.out.size))
  have HG4 : RowKit.Hid (w.heap.size ≤ w3.heap.size ∧ w3.heap.size + 1 ≤ w4.heap.size) := Lib.hid ⟨HB3.out.size, hW4.wr.row.lt⟩
  clear hW4 hg4 HA3 HD3 HB3
  go_wp2_with fail
  refine (codeOf_any (some ⟨p, 0, none⟩) 288 288 fixA w4 HA4.out (fun h => by cases h) (by decide +kernel) newA).mono ?_
  rintro e w5 ⟨hb5, a, rfl, hl5⟩
  have HW5 := Lib.hid (HW4.out.grow (grown_of_below hb5))
  have HD5 := Lib.hid (HD4.out.next hb5)
  have HB5 := Lib.hid (HB4.out.trans (hb5.mono HB4.out.size))
  have HL5 := Lib.hid hl5
  have HS5 := Lib.hid hb5.size
  clear hb5 hl5 HW4 HA4 HD4 HB4
  go_wp2_with fail
  refine (codeOf_any A3 32 c3 fixB w5 HD5.out HK3.out (by decide +kernel) newB).mono ?_
  rintro e w6 ⟨hb6, b, rfl, hl6⟩
  have hg7 := (grown_of_below hb6).trans (World.grownBy_alloc w6 (.cells #[.pointer (some ⟨w3.heap.size, 0, none⟩), .pointer (some ⟨a, 0, none⟩), .pointer (some ⟨b, 0, none⟩)] 100) none)
  have HPS : RowKit.Hid (PS (w6.alloc (.cells #[.pointer (some ⟨w3.heap.size, 0, none⟩), .pointer (some ⟨a, 0, none⟩), .pointer (some ⟨b, 0, none⟩)] 100)) w3.heap.size w3.heap.size (.slice none 0 0) [] (w3.heap.size + 1) (w6.heap.size + 1) a b) := Lib.hid
    ⟨HW5.out.grow hg7, by have := hb6.size; have := HS5.out; have := HG4.out; simp; omega, by omega, (fun k hk => by cases hk),
      (HL5.out.keep (fun k _ k2 => hg7.block k k2 (by simp))).wide HG4.out.2 (by have := hb6.size; omega),
      (hl6.keep (fun k _ k2 => (World.grownBy_alloc w6 _ none).block k k2 (by simp))).wide (by have := HS5.out; have := HG4.out; omega) (by omega), by simp⟩
  have HRW : RowKit.Hid (Row (w6.alloc (.cells #[.pointer (some ⟨w3.heap.size, 0, none⟩), .pointer (some ⟨a, 0, none⟩), .pointer (some ⟨b, 0, none⟩)] 100)) w6.heap.size #[.pointer (some ⟨w3.heap.size, 0, none⟩), .pointer (some ⟨a, 0, none⟩), .pointer (some ⟨b, 0, none⟩)] 100) := Lib.hid (heap_alloc_new w6 _)
  have HB7 : RowKit.Hid (Below w.heap.size w (w6.alloc (.cells #[.pointer (some ⟨w3.heap.size, 0, none⟩), .pointer (some ⟨a, 0, none⟩), .pointer (some ⟨b, 0, none⟩)] 100))) := Lib.hid (HB5.out.trans ((below_make hg7).mono HB5.out.size))
  clear hb6 hl6 hg7 HW5 HL5 HD5 HB5 HS5
  have HR7 : RowKit.Hid (Rd (w6.alloc (.cells #[.pointer (some ⟨w3.heap.size, 0, none⟩), .pointer (some ⟨a, 0, none⟩), .pointer (some ⟨b, 0, none⟩)] 100)) w.heap.size A n (us l)) := Lib.hid (HR.out.below HB7.out)
  have HG7 : RowKit.Hid (w.heap.size ≤ w3.heap.size ∧ w6.heap.size ≠ w3.heap.size) := Lib.hid ⟨HG4.out.1, fun e => by
    have h1 := HRW.out
    have h2 := HPS.out.wm.wr.row
    rw [e] at h1
    have := (h1.inj h2).2
    exact absurd this (by decide)⟩
  go_wp2_with fail
  refine (begin_any2 w3.heap.size w3.heap.size (some ⟨a, 0, none⟩) (some ⟨b, 0, none⟩) true 1 [] (.slice none 0 0) _ HPS.out.wm HPS.out.hB (by decide) (by decide)).mono ?_
  rintro e w8 ⟨rfl, v8, hW8, hS8⟩
  generalize hw7 : w6.alloc (.cells #[.pointer (some ⟨w3.heap.size, 0, none⟩), .pointer (some ⟨a, 0, none⟩), .pointer (some ⟨b, 0, none⟩)] 100) = w7 at HPS HRW HB7 HR7 hS8
  clear hw7
  generalize hH : w6.heap.size = H at HPS HRW HG7 hW8 hS8 ⊢
  generalize hgw : w3.heap.size = gw at HPS HRW HG7 hW8 hS8 ⊢
  clear hH hgw HG4
  rw [show ([] : List UInt8) ++ (lowB (if true = true then 1 else 0) 1 ++ lowB 1 2) = [1, 1, 0] by decide] at hW8
  have HP8 := Lib.hid (HPS.out.step hW8 hS8)
  have HS8 := Lib.hid hS8
  have HR8 := Lib.hid (hS8.row HRW.out HG7.out.2 (fun k hk => by cases hk))
  have HB8 : RowKit.Hid (Below gw w7 w8) := Lib.hid (hS8.below HPS.out.wm.wr HPS.out.hB (Nat.le_refl _))
  have HD8 : RowKit.Hid (Rd w8 w8.heap.size A n (us l)) := Lib.hid ((HR7.out.below (HB8.out.mono HG7.out.1)).more (Nat.le_trans HB7.out.size HS8.out.size))
  clear hW8 hS8
  go_wp2_with fail
  refine (tokens_any A n c l w8 HD8.out (by omega)).mono ?_
  rintro e w9 ⟨v9, rfl, ho9, hb9⟩
  obtain ⟨A9, c9, rfl, hz9, hd9⟩ := ho9.rd
  have HI9 : RowKit.Hid (TB w7 w9 gw H a b A9 (toksT l).length (toksT l) v8 [1, 1, 0]) := Lib.hid (by
    refine ⟨HP8.out.grow (grown_of_below hb9), HR8.out.grown (grown_of_below hb9) (by simp), hd9, fun g o hA => ?_, HB8.out.trans (hb9.mono HP8.out.hB)⟩
    have := ho9.place g o hA
    exact ⟨by have := HP8.out.hB; have := HP8.out.wm.wr.row.lt; omega, this.2, fun k hk => by have := (World.ownsRow.lt HP8.out.wm.wr.own k hk).2; omega⟩)
  have HT9 : RowKit.Hid ((toksT l).length ≤ n ∧ ∀ t ∈ toksT l, goodT t) := Lib.hid ⟨by have := toks_len l l.length 0; have := HL.out; unfold toksT; omega, toks_good l _ _⟩
  have HX2 : RowKit.Hid ([1, 1, 0] ++ (toksT l).flatMap tokB ++ bitsO fixA (256 : Nat) = X) := Lib.hid HX.out
  have hm : (toksT l).length ≤ n := HT9.out.1
  generalize hD : toksT l = D at HI9 HT9 HX2 hm ⊢
  generalize hDl : D.length = m at HI9 hm ⊢
  have HDL := Lib.hid hDl
  clear ho9 hb9 hz9 hd9 HP8 HS8 HR8 HB8 HD8 hD hDl
  have HPG : RowKit.Hid (gw ≤ w7.heap.size) := Lib.hid HPS.out.hB
  clear HPS HRW HR7
  go_wp2_with fail
  go_loopw [26] (fun i wr => ∃ (k : Nat) (v : Value), i = .int .i64 (k : Int) ∧ k ≤ m ∧ TB w7 wr gw H a b A9 m D v ([1, 1, 0] ++ (D.take k).flatMap tokB)) (fun i _ => m - (intOf i).toNat)
  case atStart => exact ⟨0, v8, rfl, Nat.zero_le _, HI9.out⟩
  case round =>
    clear HI9
    obtain ⟨k, v, rfl, hk, hI⟩ := hrel
    have HI := Lib.hid hI
    clear hI
    have HLM : RowKit.Hid (([1, 1, 0] ++ (D.take k).flatMap tokB : List UInt8).length ≤ 2400003) := Lib.hid (by
      have h1 := flat_length (D.take k)
      have h2 : (D.take k).length ≤ 30000 := by rw [List.length_take]; have := HDL.out; omega
      rw [List.length_append]
      simp only [List.length_cons, List.length_nil]
      omega)
    by_cases hlt : k < m
    · have d1 : decide ((k : Int) < (m : Int)) = true := decide_eq_true (by omega)
      obtain ⟨g, oo, t, hA, hg, ha, c0, c1, c2⟩ := HI.out.toks.cells hlt
      subst hA
      have HT : RowKit.Hid (D[k]? = some t ∧ goodT t) := Lib.hid ⟨ha, HT9.out.2 t (List.mem_of_getElem? ha)⟩
      have hg1 := World.grownBy_alloc wr (.cells #[U8 t.b, .int .i64 t.l, .int .i64 t.d] 108) none
      have HI1 := Lib.hid (HI.out.step (HI.out.ps.grow hg1) (St.none hg1))
      have hrt : Row (wr.alloc (.cells #[U8 t.b, .int .i64 t.l, .int .i64 t.d] 108)) wr.heap.size #[U8 t.b, .int .i64 t.l, .int .i64 t.d] 108 := heap_alloc_new wr _
      have q0 : (wr.alloc (.cells #[U8 t.b, .int .i64 t.l, .int .i64 t.d] 108)).cell? ⟨wr.heap.size, 0, none⟩ = some (.int .u8 (t.b.toNat : Int)) := hrt.cell 0
      have q1 : (wr.alloc (.cells #[U8 t.b, .int .i64 t.l, .int .i64 t.d] 108)).cell? ⟨wr.heap.size, 1, none⟩ = some (.int .i64 t.l) := hrt.cell 1
      have q2 : (wr.alloc (.cells #[U8 t.b, .int .i64 t.l, .int .i64 t.d] 108)).cell? ⟨wr.heap.size, 2, none⟩ = some (.int .i64 t.d) := hrt.cell 2
      have k0 : (wr.alloc (.cells #[U8 t.b, .int .i64 t.l, .int .i64 t.d] 108)).cell? ⟨H, 0, none⟩ = some (.pointer (some ⟨gw, 0, none⟩)) := HI1.out.row.cell 0
      have k1 : (wr.alloc (.cells #[U8 t.b, .int .i64 t.l, .int .i64 t.d] 108)).cell? ⟨H, 1, none⟩ = some (.pointer (some ⟨a, 0, none⟩)) := HI1.out.row.cell 1
      have k2 : (wr.alloc (.cells #[U8 t.b, .int .i64 t.l, .int .i64 t.d] 108)).cell? ⟨H, 2, none⟩ = some (.pointer (some ⟨b, 0, none⟩)) := HI1.out.row.cell 2
      clear ha hg hg1 hrt
      go_wp2_with fail
      refine (token_any gw gw (gw + 1) (H + 1) a b t v _ _ HI1.out.ps HT.out.2 (by have := HLM.out; omega)).mono ?_
      rintro e w3 ⟨rfl, v3, hP3, hS3⟩
      have hI3 := HI1.out.step hP3 hS3
      rw [show ([1, 1, 0] ++ (D.take k).flatMap tokB ++ tokB t : List UInt8) = [1, 1, 0] ++ (D.take (k + 1)).flatMap tokB by
        rw [List.take_add_one, HT.out.1]; simp] at hI3
      have HI3 := Lib.hid hI3
      clear hP3 hS3 hI3 q0 q1 q2 k0 k1 k2 c0 c1 c2
      go_wp2_with fail
      go_roundw
      case rel => exact ⟨k + 1, v3, rfl, by omega, HI3.out⟩
      case measure => simp [intOf]; omega
    · have hkm : k = m := by omega
      subst hkm
      have k0 : wr.cell? ⟨H, 0, none⟩ = some (.pointer (some ⟨gw, 0, none⟩)) := HI.out.row.cell 0
      have k1 : wr.cell? ⟨H, 1, none⟩ = some (.pointer (some ⟨a, 0, none⟩)) := HI.out.row.cell 1
      have k2 : wr.cell? ⟨H, 2, none⟩ = some (.pointer (some ⟨b, 0, none⟩)) := HI.out.row.cell 2
      go_wp2_with fail
      refine (sign_any2 (H + 1) a gw gw (some ⟨a, 0, none⟩) (some ⟨b, 0, none⟩) fixA 256 _ v wr (HI.out.ps.ca wr (fun _ _ _ => rfl)) HI.out.ps.hK (by decide +kernel) HI.out.ps.wm HI.out.ps.hB (by have := HLM.out; omega)).mono ?_
      rintro e w3 ⟨rfl, v3, hW3, hS3⟩
      rw [List.take_of_length_le (by rw [HDL.out]; exact Nat.le_refl _), HX2.out] at hW3
      have HI3 : RowKit.Hid (WM w3 gw gw v3 X ∧ Row w3 H #[.pointer (some ⟨gw, 0, none⟩), .pointer (some ⟨a, 0, none⟩), .pointer (some ⟨b, 0, none⟩)] 100 ∧ Below gw wr w3) := Lib.hid
        ⟨hW3, hS3.row HI.out.row HG7.out.2 (fun k hk => by have := HI.out.ps.own k hk; omega), hS3.below HI.out.ps.wm.wr HI.out.ps.hB (Nat.le_refl _)⟩
      have HXL : RowKit.Hid (X.length ≤ 7000000) := Lib.hid (by
        have := HLM.out
        rw [← HX2.out, List.length_append, bitsO_length]
        have h3 : lenI fixA (256 : Nat) = 7 := by decide +kernel
        rw [List.take_of_length_le (by rw [HDL.out]; exact Nat.le_refl _)] at this
        omega)
      clear hW3 hS3 k0 k1 k2
      have k0 : w3.cell? ⟨H, 0, none⟩ = some (.pointer (some ⟨gw, 0, none⟩)) := HI3.out.2.1.cell 0
      go_wp2_with fail
      refine (wtext_any gw gw X v3 w3 HI3.out.1 HXL.out).mono ?_
      rintro e w4 ⟨u, rfl, ho, hg⟩
      have HF : RowKit.Hid (Own w4 w.heap.size u (textB X) ∧ Below w.heap.size w w4) := Lib.hid (by
        have h1 := HI.out.below.trans HI3.out.2.2
        have h2 := h1.trans ((below_make hg).mono (Nat.le_trans HPG.out h1.size))
        exact ⟨own_mono ho (Nat.le_trans HG7.out.1 (Nat.le_trans HPG.out h1.size)), HB7.out.trans (h2.mono HG7.out.1)⟩)
      clear ho hg k0
      go_wp2_with fail
      go_ret
      exact ⟨_, rfl, HF.out.1, HF.out.2⟩
end Go.Proofs.YtpnnlhegncbfaaaGreatDoor
