
/- Contracts of what is small: Num, Is, Bytes of crossdocknum; the calls of nil; refusal; turnedRound; slices.Clone. -/
import Derived.Test.YtnadnokjhinmcaaPure
namespace Go.Proofs.Ytnadnokjhinmcaa
open Go.RowKit

/-- An error by its number; 0: none. -/
def errV : Nat → Value
  | 0 => .nilIface
  | k + 1 => .iface 51 (.int .i64 ((k + 1 : Nat) : Int))

theorem as62 (k : Int) (w : World) : (Instr.typeAssert (.iface 51 (.int .i64 k)) 34 51 true).run Try.prog w = .ok (.tuple #[.int .i64 k, .bool true]) w := by kernel_rfl

set_option maxHeartbeats 400000 in
theorem num_any (k : Nat) (w : World) : Calls Try.prog 13 #[errV k] w fun e w' => e = .returned (.int .i64 (k : Int)) ∧ w' = w := by
  cases k with
  | zero =>
    rw [show errV 0 = .nilIface from rfl]
    go_enter Try.func13, Try.ntmps13
    go_wp2_with fail
    go_ret
    exact ⟨rfl, rfl⟩
  | succ k =>
    rw [show errV (k + 1) = .iface 51 (.int .i64 ((k + 1 : Nat) : Int)) from rfl]
    obtain ⟨z, hz⟩ : ∃ z : Int, ((k + 1 : Nat) : Int) = z := ⟨_, rfl⟩
    rw [hz]
    have hz0 : (z == 0) = false := by rw [beq_eq_false_iff_ne]; omega
    have hz1 : (z != 0) = true := by rw [bne_iff_ne]; omega
    have h1 := as62 z w
    clear hz
    go_enter Try.func13, Try.ntmps13
    go_wp2_with fail
    go_ret
    exact ⟨rfl, rfl⟩

theorem odd32 (x : Nat) (hx : x < 4294967296) : bits .and .u32 (x : Int) 1 = ((x % 2 : Nat) : Int) := by
  have := u32_and_nat x 1 hx (by decide)
  rw [Nat.and_one_is_mod] at this
  exact this
theorem or32 (t x : Nat) (ht : t < 2147483648) : bits .or .u32 ((t : Int) * 2) ((x : Int) % 2) = ((2 * t + x % 2 : Nat) : Int) := by
  have h1 : (t : Int) * 2 = ((2 * t : Nat) : Int) := by omega
  have h2 : (x : Int) % 2 = ((x % 2 : Nat) : Int) := by omega
  rw [h1, h2, u32_or_nat _ _ (by omega) (by omega)]
  have := Nat.two_pow_add_eq_or_of_lt (i := 1) (b := x % 2) (by omega) t
  simp at this
  rw [← this]

theorem some22 (a : Addr) (n c : Nat) (w : World) : (binOp .eql 22 (.slice (some a) n c) (.slice none 0 0)).run Try.prog w = .ok (.bool false) w := by kernel_rfl
theorem none22 (w : World) : (binOp .eql 22 (.slice none 0 0) (.slice none 0 0)).run Try.prog w = .ok (.bool true) w := by kernel_rfl

set_option maxHeartbeats 400000 in
/-- slices.Clone -/
theorem clone_any (A : Option Addr) (n c : Nat) (l : List UInt8) (w : World) (hr : Rd w w.heap.size A n (us l)) (hA : A = none → c = 0) (hn : n ≤ 1000000) :
    Calls Try.prog 53 #[.slice A n c] w fun e w' => ∃ v, e = .returned v ∧ Own w' w.heap.size v l ∧ w.grownBy w' none := by
  have hl : l.length = n := by have := hr.1; rwa [us_length] at this
  rcases A with _ | a
  · have h0 : n = 0 := by
      rcases Nat.eq_zero_or_pos n with h0 | h0
      · exact h0
      · obtain ⟨g, o, he, _⟩ := hr.2 h0; cases he
    subst h0
    have : l = [] := List.eq_nil_of_length_eq_zero hl
    subst this
    have hc := hA rfl
    subst hc
    have hn := none22 w
    go_enter Try.func53, Try.ntmps53
    go_wp2_with fail
    go_ret
    exact ⟨_, rfl, Own.nil _ _, World.grownBy.refl _ _⟩
  · obtain ⟨b, off, sp⟩ := a
    have HR := Lib.hid hr
    have HA := Lib.hid hA
    have HO := Lib.hid (Own.lit w #[] [] 0 rfl rfl (by decide))
    have HG := Lib.hid (World.grownBy_alloc w (.cells #[] 5) none)
    clear hr hA
    have hn := some22 ⟨b, off, sp⟩ n c w
    go_enter Try.func53, Try.ntmps53
    go_wp2_with (at_builtin; refine cat8 (w.alloc (.cells #[] 5)) rfl (.tmp 5) (.tmp 6) rfl w.heap.size w.heap.size _ [] l _ n c rfl rfl HO.out (HR.out.below (below_make HG.out)) HA.out (by simp) (by simp; omega) ?_)
    intro v' w' ho hg _
    have hgw : w.grownBy w' none := ⟨hg.os.trans HG.out.os, hg.tape.trans HG.out.tape, hg.output.trans HG.out.output, Nat.le_trans HG.out.size hg.size, fun k hk _ => (hg.block k (by simp; omega) (by simp [Value.ownBlock]; omega)).trans (HG.out.block k hk (by simp))⟩
    have HO2 := Lib.hid ho
    have HG2 := Lib.hid hgw
    clear ho hg hgw
    go_wp2_with fail
    go_ret
    exact ⟨_, rfl, HO2.out, HG2.out⟩

theorem grown_drewN (w : World) (m : Nat) : w.grownBy (w.drewN m) none := ⟨rfl, rfl, rfl, Nat.le_refl _, fun _ _ _ => rfl⟩
theorem noCap' {w : World} {B : Nat} {A : Option Addr} {n c : Nat} {l : List UInt8} (h : Own w B (.slice A n c) l) : A = none → c = 0 := by
  intro hA
  rcases h.2 with ⟨h1, _⟩ | ⟨g', cap, cur, h1, _⟩
  · injection h1
  · injection h1 with h2; rw [hA] at h2; cases h2
theorem own_le {w : World} {B : Nat} {A : Option Addr} {n c : Nat} {l : List UInt8} (h : Own w B (.slice A n c) l) : n ≤ c := by
  rcases h.2 with ⟨h1, _⟩ | ⟨g', cap, cur, h1, _, _, h4, _⟩
  · injection h1 with h2 h3 h4; omega
  · injection h1 with h2 h3 h5; omega
theorem own_form {w : World} {B : Nat} {A : Option Addr} {n c : Nat} {l : List UInt8} (h : Own w B (.slice A n c) l) : A = none ∨ ∃ b o, A = some ⟨b, o, none⟩ := by
  rcases h.2 with ⟨h1, _⟩ | ⟨g', cap, cur, h1, _⟩
  · injection h1 with h2; exact .inl h2
  · injection h1 with h2; exact .inr ⟨g', 0, h2⟩
theorem grown_any {w w' : World} (h : w.grownBy w' none) (r : Option Nat) : w.grownBy w' r := ⟨h.os, h.tape, h.output, h.size, fun k hk _ => h.block k hk (by simp)⟩
theorem own_mono {w : World} {B B' : Nat} {v : Value} {l : List UInt8} (h : Own w B v l) (hb : B' ≤ B) : Own w B' v l := by
  refine ⟨h.1, ?_⟩
  rcases h.2 with h1 | ⟨g, cap, cur, h1, h2, h3⟩
  · exact .inl h1
  · exact .inr ⟨g, cap, cur, h1, by omega, h3⟩
end Go.Proofs.Ytnadnokjhinmcaa
