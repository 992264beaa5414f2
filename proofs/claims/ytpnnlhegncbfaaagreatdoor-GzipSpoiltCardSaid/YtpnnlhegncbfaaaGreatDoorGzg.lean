/- Contract of a file's members, where they were packed, one behind another. -/
import Derived.Test.YtpnnlhegncbfaaaGreatDoorGzm
namespace Go.Proofs.YtpnnlhegncbfaaaGreatDoor
set_option maxRecDepth 20000
open Go.RowKit

/-- What a file comes to: a text and how many steps, or an error. -/
abbrev ResG := Except Nat (List UInt8 × Nat)
/-- What is left of members: an answer of which P holds. -/
def MsM (w : World) (g : Nat) (A : Option Addr) (n c : Nat) (b : List UInt8) (lim : Nat) (v : Value) (P : ResG → Prop) (e : Ending) (w' : World) : Prop :=
  (∃ k, P (.error k) ∧ ThrownM w g v k e w') ∨
  (∃ v' st t, P (.ok (t, st)) ∧ e = .returned (.tuple #[]) ∧ FS w' g A n c b lim v' n st t ∧ Moves w w' g g v v')
theorem MsM.mono {w : World} {g : Nat} {A : Option Addr} {n c : Nat} {b : List UInt8} {lim : Nat} {v : Value} {P Q : ResG → Prop} (hPQ : ∀ r, P r → Q r) {e : Ending} {w' : World} (h : MsM w g A n c b lim v P e w') : MsM w g A n c b lim v Q e w' := by
  rcases h with ⟨k, h1, h2⟩ | ⟨v', st, t, h1, h2⟩
  · exact .inl ⟨k, hPQ _ h1, h2⟩
  · exact .inr ⟨v', st, t, hPQ _ h1, h2⟩
theorem ThrownM.after {w w1 w2 : World} {g : Nat} {v v1 : Value} {k : Nat} {e : Ending} (h : Moves w w1 g g v v1) (h' : ThrownM w1 g v1 k e w2) : ThrownM w g v k e w2 := by
  obtain ⟨q, v', h1, h2, h3, h4⟩ := h'
  exact ⟨q, v', h1, h2, h.trans h3, Nat.le_trans h.size h4⟩
/-- Texts that were packed, one behind another. -/
def packsB (ms : List (List UInt8 × Int)) : List UInt8 := ms.flatMap fun m => gzP m.1 m.2
def textsB (ms : List (List UInt8 × Int)) : List UInt8 := ms.flatMap fun m => m.1
theorem numL_four (x : Nat) (h : x < 4294967296) : numL (fourB x) = x := by
  unfold fourB
  simp only [numL, UInt8.toNat_ofNat']
  omega
theorem gz_mem (l : List UInt8) (z : Int) : gzP l z = memB l z (fourB (addP 0 l).toNat) (fourB l.length) := by
  unfold gzP memB
  simp only [List.append_assoc]
/-- What packed members come to, behind a text. -/
def BackR (lim : Nat) (t : List UInt8) (r : ResG) : Prop := (lim < t.length ∧ r = .error 3) ∨ (t.length ≤ lim ∧ ∃ st, r = .ok (t, st))
def atOf (g : Nat) (w : World) : Nat := match w.cell? ⟨g, 1, none⟩ with
  | some (.int _ z) => z.toNat
  | _ => 0
theorem FS.atOf {w : World} {g : Nat} {A : Option Addr} {n c : Nat} {b : List UInt8} {lim : Nat} {v : Value} {at_ st : Nat} {text : List UInt8} (h : FS w g A n c b lim v at_ st text) : atOf g w = at_ := by
  unfold YtpnnlhegncbfaaaGreatDoor.atOf
  rw [show w.cell? ⟨g, 1, none⟩ = some (.int .i64 (at_ : Int)) from h.row.cell 1]
  simp
/-- A member that was packed is next: its contract. -/
theorem packed_mem (g : Nat) (A : Option Addr) (n c : Nat) (b R : List UInt8) (lim : Nat) (v : Value) (at_ st : Nat) (text l : List UInt8) (z : Int) (w : World) (h : FS w g A n c b lim v at_ st text)
    (hb : b.drop at_ = gzP l z ++ R) (hl : l.length ≤ 30000) :
    Calls Tryz.prog 39 #[.pointer (some ⟨g, 0, none⟩)] w (MbM w g A n c b lim v at_ text l z) := by
  refine member_any g A n c b R lim v at_ st text l (fourB (addP 0 l).toNat) (fourB l.length) z w h (by rw [hb, gz_mem]) rfl rfl hl (numL_four _ ?_) (numL_four _ (by omega))
  exact u32_lt (addP 0 l)
theorem gz_len (l : List UInt8) (z : Int) : (gzP l z).length = (packT l z).length + 18 := by
  unfold gzP
  simp only [List.length_append, fourB_length, show headB.length = 10 from rfl]
  omega
set_option maxHeartbeats 4000000 in
theorem members_back (ms : List (List UInt8 × Int)) (l : List UInt8) (z : Int) (g : Nat) (A : Option Addr) (n c : Nat) (b : List UInt8) (lim : Nat) (v : Value) (w : World) (h : FS w g A n c b lim v 0 0 [])
    (hb : b = gzP l z ++ packsB ms) (hl : l.length ≤ 30000) (hms : ∀ m ∈ ms, m.1.length ≤ 30000) :
    Calls Tryz.prog 24 #[.pointer (some ⟨g, 0, none⟩)] w (MsM w g A n c b lim v (BackR lim (l ++ textsB ms))) := by
  have HM := Lib.hid (packed_mem g A n c b (packsB ms) lim v 0 0 [] l z w h (by rw [List.drop_zero]; exact hb) hl)
  have HB := Lib.hid hb
  have HMS := Lib.hid hms
  have HLN := Lib.hid h.len
  clear hb hms h
  go_enter Tryz.func24, Tryz.ntmps24
  go_wp2_with fail
  refine HM.out.mono ?_
  rintro e w1 (⟨h1, h2⟩ | ⟨h1, rfl, v1, st1, hf1, hm1⟩)
  · obtain ⟨q, v', rfl, h3⟩ := h2
    refine ⟨rfl, .inl ⟨3, .inl ⟨?_, rfl⟩, ⟨q, v', rfl, h3⟩⟩⟩
    rw [List.length_append]
    simp at h1
    omega
  have HF1 := Lib.hid hf1
  have HM1 := Lib.hid hm1
  have HD1 : RowKit.Hid (b.drop (0 + (packT l z).length + 18) = packsB ms) := Lib.hid (by rw [HB.out]; exact List.drop_left' (by rw [gz_len]; omega))
  rw [List.nil_append] at HF1
  clear hf1 hm1 h1 HM HB
  generalize 0 + (packT l z).length + 18 = a1 at HF1 HD1
  go_wp2_with fail
  go_loopw [] (fun wr => ∃ (rs : List (List UInt8 × Int)) (v' : Value) (at' st' : Nat) (t' : List UInt8), (∀ m ∈ rs, m.1.length ≤ 30000) ∧ FS wr g A n c b lim v' at' st' t' ∧ b.drop at' = packsB rs ∧ t' ++ textsB rs = l ++ textsB ms ∧ Moves w wr g g v v') (fun wr => n - atOf g wr)
  case atStart => exact ⟨ms, v1, a1, st1, l, HMS.out, HF1.out, HD1.out, rfl, HM1.out⟩
  case round =>
    clear HF1 HM1 HD1
    obtain ⟨rs, v', at', st', t', hrs, hf, hd, ht, hmv⟩ := hrel
    have r0 : wr.cell? ⟨g, 0, none⟩ = some (.slice A n c) := hf.row.cell 0
    have r1 : wr.cell? ⟨g, 1, none⟩ = some (.int .i64 (at' : Int)) := hf.row.cell 1
    have hat := hf.atOf
    have HT := Lib.hid ht
    have HMV := Lib.hid hmv
    clear ht hmv
    cases rs with
    | nil =>
      have hnl : n ≤ at' := by
        have := congrArg List.length hd
        rw [List.length_drop, hf.len] at this
        simp [packsB] at this
        omega
      have hea : at' = n := Nat.le_antisymm hf.le hnl
      subst hea
      have d1 : decide (at' < at') = false := decide_eq_false (by omega)
      have HF := Lib.hid hf
      clear hf hd hnl hrs hat
      go_wp2_with fail
      go_quiet (fail)
      have HF2 := Lib.hid (HF.out.still (grown_drewN wr nq))
      have HM2 := Lib.hid (HMV.out.trans (Moves.grown v' (grown_drewN wr nq) (.inl rfl)))
      clear r0 r1 HF HMV
      generalize wr.drewN nq = w2 at HF2 HM2 ⊢
      go_wp2_with fail
      go_end0
      refine .inr ⟨v', st', t', .inr ⟨?_, st', ?_⟩, rfl, HF2.out, HM2.out⟩
      · rw [← HT.out]; simpa [textsB] using HF2.out.tl
      · rw [← HT.out]; simp [textsB]
    | cons m rs =>
      have hd' : b.drop at' = gzP m.1 m.2 ++ packsB rs := by rw [hd]; rfl
      have hlt : at' < n := by
        have := congrArg List.length hd'
        rw [List.length_drop, hf.len, List.length_append, gz_len] at this
        omega
      have d1 : decide (at' < n) = true := decide_eq_true hlt
      have HF := Lib.hid hf
      have HAT := Lib.hid hat
      have HML : RowKit.Hid (m.1.length ≤ 30000 ∧ (∀ x ∈ rs, x.1.length ≤ 30000)) := Lib.hid ⟨hrs m (by simp), fun x hx => hrs x (by simp [hx])⟩
      have HD := Lib.hid hd'
      have HLT := Lib.hid hlt
      clear hf hd hd' hrs hat hlt
      go_wp2_with fail
      go_quiet (fail)
      have HF2 := Lib.hid (HF.out.still (grown_drewN wr nq))
      have HM2 := Lib.hid (HMV.out.trans (Moves.grown v' (grown_drewN wr nq) (.inl rfl)))
      clear r0 r1 HF HMV
      generalize wr.drewN nq = w2 at HF2 HM2 ⊢
      go_wp2_with fail
      refine (packed_mem g A n c b (packsB rs) lim v' at' st' t' m.1 m.2 w2 HF2.out HD.out HML.out.1).mono ?_
      rintro e w3 (⟨h1, h2⟩ | ⟨h1, rfl, v3, st3, hf3, hm3⟩)
      · have h3 := ThrownM.after HM2.out h2
        obtain ⟨q, vq, rfl, h4⟩ := h3
        refine ⟨rfl, .inl ⟨3, .inl ⟨?_, rfl⟩, ⟨q, vq, rfl, h4⟩⟩⟩
        rw [← HT.out]
        simp [textsB]
        omega
      · have HF3 := Lib.hid hf3
        have HM3 := Lib.hid (HM2.out.trans hm3)
        clear hf3 hm3
        go_wp2_with fail
        go_roundw
        case rel =>
          refine ⟨rs, v3, _, st3, _, HML.out.2, HF3.out, ?_, ?_, HM3.out⟩
          · rw [← List.drop_drop, ← List.drop_drop, HD.out, List.drop_drop]
            exact List.drop_left' (by rw [gz_len])
          · rw [← HT.out]; simp [textsB]
        case measure =>
          rw [HF3.out.atOf, HAT.out]
          have := HLT.out
          have := HF3.out.le
          omega
end Go.Proofs.YtpnnlhegncbfaaaGreatDoor
