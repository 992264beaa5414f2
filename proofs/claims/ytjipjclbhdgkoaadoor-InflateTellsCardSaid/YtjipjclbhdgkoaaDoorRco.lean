/- Contract of the reference's codes. -/
import Derived.Test.YtjipjclbhdgkoaaDoorRsg
namespace Go.Proofs.YtjipjclbhdgkoaaDoor
open Go.RowKit

variable {h : Nat} {A : Option Addr} {N c : Nat} {M : List UInt8} {lim : Nat} {v : Value} {s : Sx} {bad : Nat}
def or2 (bad : Nat) : Nat := if bad = 0 then 2 else bad
/-- What codes leaves. -/
def RCo (w : World) (h : Nat) (A : Option Addr) (N c : Nat) (M : List UInt8) (lim : Nat) (v : Value) (s : Sx) (bad : Nat) (ls : List Nat) (lone : Bool) (e : Ending) (w' : World) : Prop :=
  Moves w w' h h v v ∧ (∀ k, k < w.heap.size → k ≠ h → w'.heap[k]? = w.heap[k]?) ∧ ((right ls lone = true ∧ RS w' h A N c M lim v s bad ∧ ∃ p, e = .returned (.slice (some ⟨p, 0, none⟩) ls.length ls.length) ∧ RC w' h v p ls) ∨
    (right ls lone = false ∧ RS w' h A N c M lim v s (or2 bad) ∧ e = .returned (.slice none 0 0)))
set_option maxHeartbeats 1000000 in
theorem rcode_any (A2 : Option Addr) (n c2 : Nat) (ls : List Nat) (lone : Bool) (w : World) (g : RS w h A N c M lim v s bad) (hr : Rd w w.heap.size A2 n (is (ints64 ls))) (hn : ls.length ≤ 320) (hlow : Low ls) :
    Calls Tryd.prog 22 #[.pointer (some ⟨h, 0, none⟩), .slice A2 n c2, .bool lone] w (RCo w h A N c M lim v s bad ls lone) := by
  have hn2 : n = ls.length := by have := hr.1; rw [is_length, ints_length] at this; exact this.symm
  have HC := Lib.hid (rcodes_any A2 n c2 (ints64 ls) lone w hr (by omega))
  have HR := Lib.hid (newE_right (L := ints64 ls) lone (by rw [ints_length]; exact hn) (rng_ints hlow))
  rw [nats_ints] at HR
  have HG := Lib.hid g
  have HL := Lib.hid (And.intro hn hlow)
  clear hr hn2 g
  go_enter Tryd.func22, Tryd.ntmps22
  go_wp2_with fail
  refine HC.out.mono ?_
  rintro e w1 ⟨hb, h1, h2⟩
  have hg1 := HG.out.still (grown_of_below hb)
  have HM1 := Lib.hid (Moves.grown (g := h) (r := h) v (grown_of_below hb) (.inl rfl))
  have HB1 : RowKit.Hid (∀ k, k < w.heap.size → w1.heap[k]? = w.heap[k]?) := Lib.hid (fun k hk => hb.block k hk)
  by_cases hE : newE (ints64 ls) lone = 0
  · obtain ⟨p, rfl, hp, hrow⟩ := h2 hE
    rw [ints_length, nats_ints] at hrow
    rw [ints_length]
    have hrt := HR.out.1 hE
    have HRC : RowKit.Hid (RC w1 h v p ls) := Lib.hid ⟨HL.out.2, by have := hrt; unfold right at this; exact (of_decide_eq_true this).1, HL.out.1, hrow, by have := HG.out.lt; omega, fun e => by have := (HG.out.ownLt e.symm).2; omega⟩
    have HRT := Lib.hid hrt
    have HG1 := Lib.hid hg1
    clear h1 h2 hE hb hp hrow hrt hg1 HC HR
    go_wp2_with fail
    refine (rwrong_no _ _ w1 HG1.out (.inr (by first | rfl | simp))).mono ?_
    rintro e w2 ⟨rfl, rfl⟩
    go_wp2_with fail
    go_ret
    exact ⟨HM1.out, fun k hk _ => HB1.out k hk, .inl ⟨HRT.out, HG1.out, p, rfl, HRC.out⟩⟩
  · obtain rfl := h1 hE
    have HRT : RowKit.Hid (right ls lone = false) := Lib.hid (by
      cases hh : right ls lone with
      | false => rfl
      | true => exact absurd (HR.out.2 hh) hE)
    obtain ⟨k, hk⟩ : ∃ k, newE (ints64 ls) lone = k + 1 := ⟨newE (ints64 ls) lone - 1, by omega⟩
    rw [hk]
    obtain ⟨z, hz⟩ : ∃ z : Int, ((k + 1 : Nat) : Int) = z := ⟨_, rfl⟩
    rw [hz]
    have hz0 : (z == 0) = false := by rw [beq_eq_false_iff_ne]; omega
    have hz1 : ¬ z = 0 := by omega
    have HG1 := Lib.hid hg1
    clear h1 h2 hE hb hg1 hk hz HC HR
    go_wp2_with fail
    by_cases h0 : bad = 0
    · subst h0
      refine (rwrong_yes _ (by first | rfl | simp [hz1]) 2 _ rfl w1 HG1.out).mono ?_
      rintro e w2 ⟨rfl, hg2, hm2, hgr2⟩
      have HG2 := Lib.hid hg2
      have HM2 := Lib.hid hm2
      have HGR := Lib.hid hgr2
      clear hg2 hm2 hgr2
      go_wp2_with fail
      go_ret
      exact ⟨HM1.out.trans HM2.out, fun k hk hne => (HGR.out.block k (Nat.lt_of_lt_of_le hk HM1.out.size) (fun e => by injection e with e; exact hne e)).trans (HB1.out k hk), .inr ⟨HRT.out, HG2.out, rfl⟩⟩
    · refine (rwrong_no _ _ w1 HG1.out (.inl h0)).mono ?_
      rintro e w2 ⟨rfl, rfl⟩
      go_wp2_with fail
      go_ret
      exact ⟨HM1.out, fun k hk _ => HB1.out k hk, .inr ⟨HRT.out, by unfold or2; rw [if_neg h0]; exact HG1.out, rfl⟩⟩
end Go.Proofs.YtjipjclbhdgkoaaDoor
