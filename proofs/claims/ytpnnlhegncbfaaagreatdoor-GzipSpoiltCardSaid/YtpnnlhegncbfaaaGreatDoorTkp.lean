
/- Contracts of the packer's length and token. -/
import Derived.Test.YtpnnlhegncbfaaaGreatDoorStq
namespace Go.Proofs.YtpnnlhegncbfaaaGreatDoor
set_option maxRecDepth 20000
open Go.RowKit

theorem fix_low : Low fixA ∧ Low fixB := by
  constructor
  · intro x hx; revert x; decide +kernel
  · intro x hx; revert x; decide +kernel
theorem fixA_len : ∀ s : Nat, s < 288 → lenAt fixA s ≠ 0 := by decide +kernel
theorem fixB_len : ∀ s : Nat, s < 32 → lenAt fixB s ≠ 0 := by decide +kernel
/-- A length's bits, a token's bits. -/
def lenB (L : Nat) : List UInt8 := if L = 258 then bitsO fixA (285 : Nat) else bitsO fixA (sgn 257 (L - 3) 2 : Nat) ++ lowB ((L - 3) % 2 ^ fur (L - 3) 2) (fur (L - 3) 2)
def distB (D : Nat) : List UInt8 := bitsO fixB (sgn 0 (D - 1) 1 : Nat) ++ lowB ((D - 1) % 2 ^ fur (D - 1) 1) (fur (D - 1) 1)
def tokB (t : Tk) : List UInt8 := if t.l = 0 then bitsO fixA (t.b.toNat : Nat) else lenB t.l.toNat ++ distB t.d.toNat
theorem fur_le (x fine : Nat) : fur x fine ≤ 15 := by have := blen_le x; unfold fur; omega
theorem lenB_length (L : Nat) : (lenB L).length ≤ 40 := by
  unfold lenB
  split
  · rw [bitsO_length]; have := lenI_bound fix_low.1 (285 : Nat); omega
  · rw [List.length_append, bitsO_length, lowB_length]
    have h1 := lenI_bound fix_low.1 (sgn 257 (L - 3) 2 : Nat)
    have h2 := fur_le (L - 3) 2
    omega
theorem distB_length (D : Nat) : (distB D).length ≤ 40 := by
  unfold distB
  rw [List.length_append, bitsO_length, lowB_length]
  have h1 := lenI_bound fix_low.2 (sgn 0 (D - 1) 1 : Nat)
  have h2 := fur_le (D - 1) 1
  omega
theorem tokB_length (t : Tk) : (tokB t).length ≤ 80 := by
  unfold tokB
  split
  · rw [bitsO_length]; have := lenI_bound fix_low.1 (t.b.toNat : Nat); omega
  · have h1 := lenB_length t.l.toNat
    have h2 := distB_length t.d.toNat
    rw [List.length_append]; omega
/-- What is known of a packer beside its two codes. -/
structure PS (w : World) (B gw : Nat) (v : Value) (m : List UInt8) (lo K a b : Nat) : Prop where
  wm : WM w B gw v m
  hB : B ≤ w.heap.size
  glo : gw < lo
  own : ∀ k, v.ownBlock = some k → K ≤ k
  ca : HL w lo K a fixA
  cb : HL w lo K b fixB
  hK : K ≤ w.heap.size
section
variable {w w' : World} {B gw lo K a b : Nat} {v v' : Value} {m m' : List UInt8}
theorem PS.step (h : PS w B gw v m lo K a b) (hW : WM w' B gw v' m') (hS : St w gw v w' v') : PS w' B gw v' m' lo K a b := by
  have he : ∀ k, lo ≤ k → k < K → w'.heap[k]? = w.heap[k]? := fun k h1 h2 => hS.block k (by have := h.hK; omega) (by have := h.glo; omega) (fun e => by have := h.own k e; omega)
  refine ⟨hW, Nat.le_trans h.hB hS.size, h.glo, fun k hk => ?_, fun w'' hh => h.ca w'' (fun k h1 h2 => (hh k h1 h2).trans (he k h1 h2)), fun w'' hh => h.cb w'' (fun k h1 h2 => (hh k h1 h2).trans (he k h1 h2)), Nat.le_trans h.hK hS.size⟩
  rcases hS.fresh with e | ⟨j, e, hj⟩
  · exact h.own k (e ▸ hk)
  · rw [e] at hk; injection hk with hk; have := h.hK; omega
theorem PS.grow (h : PS w B gw v m lo K a b) (hg : w.grownBy w' none) : PS w' B gw v m lo K a b := h.step (h.wm.grow hg) (St.none hg)
theorem PS.hca (h : PS w B gw v m lo K a b) : HC w K a fixA := h.ca w (fun _ _ _ => rfl)
theorem PS.hcb (h : PS w B gw v m lo K a b) : HC w K b fixB := h.cb w (fun _ _ _ => rfl)
theorem PS.notNew (h : PS w B gw v m lo K a b) : w.heap.size ≠ gw ∧ ∀ k, v.ownBlock = some k → k ≠ w.heap.size :=
  ⟨by have := h.wm.wr.row.lt; omega, fun k hk => by have := (World.ownsRow.lt h.wm.wr.own k hk).2; omega⟩
end
set_option maxHeartbeats 2000000 in
set_option maxRecDepth 10000 in
theorem length_any (B gw lo K a b L : Nat) (v : Value) (m : List UInt8) (w : World) (h : PS w B gw v m lo K a b) (h3 : 3 ≤ L) (h258 : L ≤ 258) (hL : m.length ≤ 6999000) :
    Calls Tryz.prog 79 #[pkV gw (some ⟨a, 0, none⟩) (some ⟨b, 0, none⟩), .int .i64 (L : Int)] w fun e w' => e = .returned (.tuple #[]) ∧ ∃ v', PS w' B gw v' (m ++ lenB L) lo K a b ∧ St w gw v w' v' := by
  have hg1 := World.grownBy_alloc w (.cells #[.pointer (some ⟨gw, 0, none⟩), .pointer (some ⟨a, 0, none⟩), .pointer (some ⟨b, 0, none⟩)] 100) none
  have HP := Lib.hid (h.grow hg1)
  have HS1 := Lib.hid (St.none (g := gw) (v := v) hg1)
  have HLM := Lib.hid hL
  clear h hg1 hL
  go_enter Tryz.func79, Tryz.ntmps79
  by_cases he : L = 258
  · subst he
    go_wp2_with fail
    refine (sign_any2 K a B gw (some ⟨a, 0, none⟩) (some ⟨b, 0, none⟩) fixA 285 m v _ HP.out.hca HP.out.hK (fixA_len 285 (by decide)) HP.out.wm HP.out.hB (by have := HLM.out; omega)).mono ?_
    rintro e w3 ⟨rfl, v3, hW3, hS3⟩
    have HF := Lib.hid (And.intro (HP.out.step hW3 hS3) (HS1.out.trans hS3))
    clear hW3 hS3
    go_wp2_with fail
    refine bodyPost_ret (results_none rfl _ _ _) rfl ?_
    exact ⟨rfl, v3, HF.out.1, HF.out.2⟩
  · have d1 : ((L : Int) == 258) = false := by rw [beq_eq_false_iff_ne]; omega
    obtain ⟨x, hx⟩ : ∃ x, L - 3 = x := ⟨_, rfl⟩
    have ex : (L : Int) - 3 = (x : Int) := by omega
    have hLB : lenB L = bitsO fixA (sgn 257 x 2 : Nat) ++ lowB (x % 2 ^ fur x 2) (fur x 2) := by unfold lenB; rw [if_neg he, hx]
    have hsg : sgn 257 x 2 ≤ 284 := by rw [← hx]; exact (len_tells L (by omega) h3).2.1
    have HB := Lib.hid hLB
    clear hLB
    go_wp2_with fail
    refine (stepped_any K a B gw (some ⟨a, 0, none⟩) (some ⟨b, 0, none⟩) fixA 257 x 2 m v _ HP.out.hca HP.out.hK (fixA_len _ (by omega)) (by omega) (by omega) (.inr rfl) HP.out.wm HP.out.hB (by have := HLM.out; omega)).mono ?_
    rintro e w3 ⟨rfl, v3, hW3, hS3⟩
    rw [← HB.out] at hW3
    have HF := Lib.hid (And.intro (HP.out.step hW3 hS3) (HS1.out.trans hS3))
    clear hW3 hS3
    go_wp2_with fail
    go_end0
    exact ⟨rfl, v3, HF.out.1, HF.out.2⟩
set_option maxHeartbeats 4000000 in
set_option maxRecDepth 10000 in
theorem token_any (B gw lo K a b : Nat) (t : Tk) (v : Value) (m : List UInt8) (w : World) (h : PS w B gw v m lo K a b) (ht : t.l = 0 ∨ (3 ≤ t.l ∧ t.l ≤ 258 ∧ 1 ≤ t.d ∧ t.d ≤ 32768)) (hL : m.length ≤ 6998000) :
    Calls Tryz.prog 63 #[pkV gw (some ⟨a, 0, none⟩) (some ⟨b, 0, none⟩), tokV t] w fun e w' => e = .returned (.tuple #[]) ∧ ∃ v', PS w' B gw v' (m ++ tokB t) lo K a b ∧ St w gw v w' v' := by
  have hg1 := World.grownBy_alloc w (.cells #[.pointer (some ⟨gw, 0, none⟩), .pointer (some ⟨a, 0, none⟩), .pointer (some ⟨b, 0, none⟩)] 100) none
  have hg2 := World.grownBy_alloc (w.alloc (.cells #[.pointer (some ⟨gw, 0, none⟩), .pointer (some ⟨a, 0, none⟩), .pointer (some ⟨b, 0, none⟩)] 100)) (.cells #[U8 t.b, .int .i64 t.l, .int .i64 t.d] 108) none
  have HP := Lib.hid ((h.grow hg1).grow hg2)
  have HS1 := Lib.hid (St.none (g := gw) (v := v) (hg1.trans hg2))
  have hR1 : Row (w.alloc (.cells #[.pointer (some ⟨gw, 0, none⟩), .pointer (some ⟨a, 0, none⟩), .pointer (some ⟨b, 0, none⟩)] 100)) w.heap.size #[.pointer (some ⟨gw, 0, none⟩), .pointer (some ⟨a, 0, none⟩), .pointer (some ⟨b, 0, none⟩)] 100 := heap_alloc_new w _
  have hR1b := hR1.grown hg2 (by simp)
  have hR2 : Row ((w.alloc (.cells #[.pointer (some ⟨gw, 0, none⟩), .pointer (some ⟨a, 0, none⟩), .pointer (some ⟨b, 0, none⟩)] 100)).alloc (.cells #[U8 t.b, .int .i64 t.l, .int .i64 t.d] 108)) (w.heap.size + 1) #[U8 t.b, .int .i64 t.l, .int .i64 t.d] 108 := by
    have h0 := heap_alloc_new (w.alloc (.cells #[.pointer (some ⟨gw, 0, none⟩), .pointer (some ⟨a, 0, none⟩), .pointer (some ⟨b, 0, none⟩)] 100)) (.cells #[U8 t.b, .int .i64 t.l, .int .i64 t.d] 108)
    unfold Row
    simpa using h0
  have HR1 := Lib.hid hR1b
  have HR2 := Lib.hid hR2
  have HN : RowKit.Hid ((w.heap.size ≠ gw ∧ ∀ k, v.ownBlock = some k → k ≠ w.heap.size) ∧ (w.heap.size + 1 ≠ gw ∧ ∀ k, v.ownBlock = some k → k ≠ w.heap.size + 1)) := Lib.hid ⟨h.notNew, by have := h.wm.wr.row.lt; omega, fun k hk => by have := (World.ownsRow.lt h.wm.wr.own k hk).2; omega⟩
  have HLM := Lib.hid hL
  clear h hg1 hg2 hL hR1 hR1b hR2
  go_enter Tryz.func63, Tryz.ntmps63
  by_cases he : t.l = 0
  · have d1 : (t.l == 0) = true := by rw [he]; rfl
    have HB : RowKit.Hid (tokB t = bitsO fixA (t.b.toNat : Nat)) := Lib.hid (by unfold tokB; rw [if_pos he])
    have hb : t.b.toNat < 256 := t.b.toNat_lt
    clear he ht
    go_wp2_with fail
    refine (sign_any2 K a B gw (some ⟨a, 0, none⟩) (some ⟨b, 0, none⟩) fixA t.b.toNat m v _ HP.out.hca HP.out.hK (fixA_len _ (by omega)) HP.out.wm HP.out.hB (by have := HLM.out; omega)).mono ?_
    rintro e w3 ⟨rfl, v3, hW3, hS3⟩
    rw [← HB.out] at hW3
    have HF := Lib.hid (And.intro (HP.out.step hW3 hS3) (HS1.out.trans hS3))
    clear hW3 hS3
    go_wp2_with fail
    refine bodyPost_ret (results_none rfl _ _ _) rfl ?_
    exact ⟨rfl, v3, HF.out.1, HF.out.2⟩
  · have d1 : (t.l == 0) = false := by rw [beq_eq_false_iff_ne]; exact he
    obtain ⟨L, hl⟩ : ∃ L : Nat, t.l = (L : Int) := ⟨t.l.toNat, by omega⟩
    obtain ⟨D, hd⟩ : ∃ D : Nat, t.d = (D : Int) := ⟨t.d.toNat, by omega⟩
    obtain ⟨x, hx⟩ : ∃ x, D - 1 = x := ⟨_, rfl⟩
    have ex : (D : Int) - 1 = (x : Int) := by omega
    have HB : RowKit.Hid (tokB t = lenB L ++ (bitsO fixB (sgn 0 x 1 : Nat) ++ lowB (x % 2 ^ fur x 1) (fur x 1))) := Lib.hid (by unfold tokB distB; rw [if_neg he, hl, hd, Int.toNat_natCast, Int.toNat_natCast, hx])
    have hsg : sgn 0 x 1 ≤ 29 := (dist_tells (x := x) (by omega)).1
    have h3 : 3 ≤ L := by omega
    have h258 : L ≤ 258 := by omega
    have hx2 : x < 32768 := by omega
    have HT : RowKit.Hid (t.l = (L : Int) ∧ t.d = (D : Int)) := Lib.hid ⟨hl, hd⟩
    have HLE := Lib.hid (length_any B gw lo K a b L v m _ HP.out h3 h258 (by have := HLM.out; omega))
    rw [← hl] at HLE
    have ex2 : t.d - 1 = (x : Int) := by omega
    have htd : t.d ≤ 32768 := by omega
    have htd1 : 1 ≤ t.d := by omega
    clear he ht hx hl hd ex
    go_wp2_with fail
    refine HLE.out.mono ?_
    rintro e w3 ⟨rfl, v3, hP3, hS3⟩
    have hr1 := hS3.row HR1.out HN.out.1.1 HN.out.1.2
    have hr2 := hS3.row HR2.out HN.out.2.1 HN.out.2.2
    have k0 : w3.cell? ⟨w.heap.size, 0, none⟩ = some (.pointer (some ⟨gw, 0, none⟩)) := hr1.cell 0
    have k1 : w3.cell? ⟨w.heap.size, 1, none⟩ = some (.pointer (some ⟨a, 0, none⟩)) := hr1.cell 1
    have k2 : w3.cell? ⟨w.heap.size, 2, none⟩ = some (.pointer (some ⟨b, 0, none⟩)) := hr1.cell 2
    have q2 : w3.cell? ⟨w.heap.size + 1, 2, none⟩ = some (.int .i64 t.d) := hr2.cell 2
    have HP3 := Lib.hid hP3
    have HS3 := Lib.hid (HS1.out.trans hS3)
    clear hP3 hS3 hr1 hr2 HLE
    go_wp2_with fail
    refine (stepped_any K b B gw (some ⟨a, 0, none⟩) (some ⟨b, 0, none⟩) fixB 0 x 1 (m ++ lenB L) v3 w3 HP3.out.hcb HP3.out.hK (fixB_len _ (by omega)) (by omega) (by omega) (.inl rfl) HP3.out.wm HP3.out.hB (by have h1 := HLM.out; have h2 := lenB_length L; rw [List.length_append]; omega)).mono ?_
    rintro e w4 ⟨rfl, v4, hW4, hS4⟩
    rw [List.append_assoc, ← HB.out] at hW4
    have HF := Lib.hid (And.intro (HP3.out.step hW4 hS4) (HS3.out.trans hS4))
    clear hW4 hS4 k0 k1 k2 q2
    go_wp2_with fail
    go_end0
    exact ⟨rfl, v4, HF.out.1, HF.out.2⟩
end Go.Proofs.YtpnnlhegncbfaaaGreatDoor
