
/- Contracts of what is small: Num, Is, Bytes of crossdocknum; the calls of nil; refusal; turnedRound; slices.Clone. -/

/- What a Reader is in memory; contracts of NewReader, At, Left, ahead. -/

/- Contracts of a Reader's Bits, Peek, Align and Bytes. -/
import Derived.Test.YtpnnlhegncbfaaaGreatDoorGroupA
import Derived.Deep.QuietTactic
import Derived.BigQuiet
namespace Go.Proofs.YtpnnlhegncbfaaaGreatDoor
set_option maxRecDepth 20000
open Go.RowKit

set_option maxHeartbeats 400000 in
theorem rbits_nil (n : Int) (w : World) : Calls Tryz.prog 107 #[.pointer none, .int .i64 n] w fun e w' => e = .returned (.tuple #[.int .u32 0, .iface 39 (.int .i64 4)]) ∧ w' = w := by
  go_enter Tryz.func107, Tryz.ntmps107
  go_wp2_with fail
  go_ret2
  exact ⟨rfl, rfl⟩
set_option maxHeartbeats 400000 in
theorem rpeek_nil (n : Int) (w : World) : Calls Tryz.prog 127 #[.pointer none, .int .i64 n] w fun e w' => e = .returned (.tuple #[.int .u32 0, .int .i64 0]) ∧ w' = w := by
  go_enter Tryz.func127, Tryz.ntmps127
  go_wp2_with fail
  go_ret2
  exact ⟨rfl, rfl⟩
set_option maxHeartbeats 400000 in
theorem at_nil (w : World) : Calls Tryz.prog 85 #[.pointer none] w fun e w' => e = .returned (.int .i64 0) ∧ w' = w := by
  go_enter Tryz.func85, Tryz.ntmps85
  go_wp2_with fail
  go_ret
  exact ⟨rfl, rfl⟩
set_option maxHeartbeats 400000 in
theorem left_nil (w : World) : Calls Tryz.prog 112 #[.pointer none] w fun e w' => e = .returned (.int .i64 0) ∧ w' = w := by
  go_enter Tryz.func112, Tryz.ntmps112
  go_wp2_with fail
  go_ret
  exact ⟨rfl, rfl⟩
end Go.Proofs.YtpnnlhegncbfaaaGreatDoor
namespace Go.Proofs.YtpnnlhegncbfaaaGreatDoor
set_option maxRecDepth 20000
open Go.RowKit

/-- Block g holds a reader of the bytes l, in the row A, that is at the bit p; the row lies in none of the blocks S. -/
structure RA (w : World) (S : List Nat) (g : Nat) (A : Option Addr) (n c : Nat) (l : List UInt8) (p : Nat) : Prop where
  row : Row w g #[.slice A n c, .int .i64 (p : Int)] 158
  rd : RdS w S A n (us l)
  cap : A = none → c = 0
  le : p ≤ 8 * n
  form : A = none ∨ ∃ b o, A = some ⟨b, o, none⟩
  lc : n ≤ c
theorem RA.len {w : World} {S : List Nat} {g : Nat} {A : Option Addr} {n c : Nat} {l : List UInt8} {p : Nat} (h : RA w S g A n c l p) : l.length = n := by have := h.rd.1; rwa [us_length] at this
theorem RA.cell0 {w : World} {S : List Nat} {g : Nat} {A : Option Addr} {n c : Nat} {l : List UInt8} {p : Nat} (h : RA w S g A n c l p) : w.cell? ⟨g, 0, none⟩ = some (.slice A n c) := h.row.cell 0
theorem RA.cell1 {w : World} {S : List Nat} {g : Nat} {A : Option Addr} {n c : Nat} {l : List UInt8} {p : Nat} (h : RA w S g A n c l p) : w.cell? ⟨g, 1, none⟩ = some (.int .i64 (p : Int)) := h.row.cell 1
theorem RA.grown {w w' : World} {S : List Nat} {g : Nat} {A : Option Addr} {n c : Nat} {l : List UInt8} {p : Nat} (h : RA w S g A n c l p) {r : Option Nat} (hg : w.grownBy w' r) (h1 : some g ≠ r) (h2 : ∀ k, r = some k → k ∈ S) : RA w' S g A n c l p :=
  ⟨h.row.grown hg h1, h.rd.grown hg h2, h.cap, h.le, h.form, h.lc⟩
theorem RA.still {w w' : World} {S : List Nat} {g : Nat} {A : Option Addr} {n c : Nat} {l : List UInt8} {p : Nat} (h : RA w S g A n c l p) (hg : w.grownBy w' none) : RA w' S g A n c l p := h.grown hg (by simp) (fun k e => by cases e)
theorem RA.drewN {w : World} {S : List Nat} {g : Nat} {A : Option Addr} {n c : Nat} {l : List UInt8} {p : Nat} (h : RA w S g A n c l p) (m : Nat) : RA (w.drewN m) S g A n c l p := h.still (grown_drewN w m)
theorem RA.set1 {w : World} {S : List Nat} {g : Nat} {A : Option Addr} {n c : Nat} {l : List UInt8} {p : Nat} (h : RA w S g A n c l p) (hS : g ∈ S) (q : Nat) (hq : q ≤ 8 * n) (z : Int) (hz : z = (q : Int)) : RA (w.setCell ⟨g, 1, none⟩ (.int .i64 z)) S g A n c l q := by
  subst hz
  exact ⟨h.row.set 1 _, h.rd.grown (grown_setCell w g 1 _) (fun k e => by injection e with e; subst e; exact hS), h.cap, hq, h.form, h.lc⟩

set_option maxHeartbeats 400000 in
theorem at_any {S : List Nat} {A : Option Addr} {n c : Nat} {l : List UInt8} {p : Nat} (g : Nat) (w : World) (hR : RA w S g A n c l p) :
    Calls Tryz.prog 85 #[.pointer (some ⟨g, 0, none⟩)] w fun e w' => e = .returned (.int .i64 (p : Int)) ∧ w' = w := by
  have hc1 := hR.cell1
  clear hR
  go_enter Tryz.func85, Tryz.ntmps85
  go_wp2_with fail
  go_ret
  exact ⟨rfl, rfl⟩

set_option maxHeartbeats 400000 in
theorem left_any {S : List Nat} {A : Option Addr} {n c : Nat} {l : List UInt8} {p : Nat} (g : Nat) (w : World) (hR : RA w S g A n c l p) (hn : n ≤ 1000000) :
    Calls Tryz.prog 112 #[.pointer (some ⟨g, 0, none⟩)] w fun e w' => e = .returned (.int .i64 ((8 * n - p : Nat) : Int)) ∧ ∃ m, w' = w.drewN m := by
  have hc0 := hR.cell0
  have hc1 := hR.cell1
  have he : 8 * (n : Int) - (p : Int) = ((8 * n - p : Nat) : Int) := by have := hR.le; omega
  have hp : p ≤ 8000000 := by have := hR.le; omega
  clear hR
  go_enter Tryz.func112, Tryz.ntmps112
  go_wp2_with fail
  go_region
  go_wp2_with fail
  go_ret
  exact ⟨rfl, 1, rfl⟩

theorem div_mod_pow (X a b c : Nat) (h : b + c ≤ a) : X % 2 ^ a / 2 ^ b % 2 ^ c = X / 2 ^ b % 2 ^ c := by
  apply Nat.eq_of_testBit_eq
  intro i
  simp only [Nat.testBit_mod_two_pow, Nat.testBit_div_two_pow]
  by_cases hi : i < c
  · have : i + b < a := by omega
    simp [hi, this]
  · simp [hi]
theorem held_fld (l : List UInt8) (p k M : Nat) (hM : p % 8 + k ≤ 8 * M) (hl : p / 8 + M ≤ l.length) : numL ((l.drop (p / 8)).take M) / 2 ^ (p % 8) % 2 ^ k = fld (numL l) p k := by
  rw [numL_part l _ _ hl, div_mod_pow _ _ _ _ hM, Nat.div_div_eq_div_mul, ← Nat.pow_add, show 8 * (p / 8) + p % 8 = p by omega]
  rfl
theorem held_more (l : List UInt8) (f i : Nat) (x : UInt8) (h : l[f + i]? = some x) : numL ((l.drop f).take (i + 1)) = numL ((l.drop f).take i) + x.toNat * 2 ^ (8 * i) := by
  have hx : (l.drop f)[i]? = some x := by rw [List.getElem?_drop]; exact h
  have hi : i < (l.drop f).length := (List.getElem?_eq_some_iff.1 hx).1
  rw [take_more hx, numL_append, List.length_take, Nat.min_eq_left (by omega)]
  simp [numL, Nat.mul_comm]

theorem wrap_u64_nat (n : Nat) (h : n < 18446744073709551616) : IntKind.u64.wrap (n : Int) = (n : Int) := by rw [IntKind.wrap_u64]; omega
theorem or64 (h s : Nat) (x : UInt8) (hh : h < 2 ^ s) (hs : s ≤ 32) : bits .or .u64 (h : Int) (IntKind.u64.wrap ((x.toNat : Int) * 2 ^ s)) = ((h + x.toNat * 2 ^ s : Nat) : Int) := by
  have hp : 2 ^ s ≤ 2 ^ 32 := Nat.pow_le_pow_right (by decide) hs
  have hx : x.toNat < 256 := x.toNat_lt
  have hm : x.toNat * 2 ^ s ≤ 255 * 2 ^ 32 := Nat.mul_le_mul (by omega) hp
  have h1 : (x.toNat : Int) * 2 ^ s = ((x.toNat * 2 ^ s : Nat) : Int) := by simp
  rw [h1, wrap_u64_nat _ (by omega), u64_or_nat _ _ (by omega) (by omega), or_add _ _ _ hh]
theorem and64 (h r k : Nat) (hh : h < 18446744073709551616) (hk : k ≤ 32) : bits .and .u64 ((h : Int) / 2 ^ r) (IntKind.u64.wrap (IntKind.u64.wrap (2 ^ k) - 1)) % 4294967296 = ((h / 2 ^ r % 2 ^ k : Nat) : Int) := by
  have hp : 2 ^ k ≤ 2 ^ 32 := Nat.pow_le_pow_right (by decide) hk
  have hp0 : 0 < 2 ^ k := Nat.two_pow_pos k
  have h1 : (h : Int) / 2 ^ r = ((h / 2 ^ r : Nat) : Int) := by simp
  have h2 : (2 : Int) ^ k = ((2 ^ k : Nat) : Int) := by simp
  have h3 : ((2 ^ k : Nat) : Int) - 1 = ((2 ^ k - 1 : Nat) : Int) := by omega
  have hd : h / 2 ^ r < 18446744073709551616 := Nat.lt_of_le_of_lt (Nat.div_le_self _ _) hh
  rw [h1, h2, wrap_u64_nat _ (by omega), h3, wrap_u64_nat _ (by omega), u64_and_nat _ _ hd (by omega), Nat.and_two_pow_sub_one_eq_mod]
  have : h / 2 ^ r % 2 ^ k < 2 ^ k := Nat.mod_lt _ hp0
  omega

set_option maxHeartbeats 1000000 in
theorem ahead_any {S : List Nat} {A : Option Addr} {n c : Nat} {l : List UInt8} {p : Nat} (g k : Nat) (w : World) (hR : RA w S g A n c l p) (hn : n ≤ 1000000) (hk : k ≤ 32) (hpk : p + k ≤ 8 * n) :
    Calls Tryz.prog 113 #[.pointer (some ⟨g, 0, none⟩), .int .i64 (k : Int)] w fun e w' => e = .returned (.int .u32 (fld (numL l) p k : Int)) ∧ ∃ m, w' = w.drewN m := by
  have hl := hR.len
  have hc1 := hR.cell1
  have hp : p ≤ 8000000 := by have := hR.le; omega
  have HR := Lib.hid hR
  have HL := Lib.hid hl
  clear hR hl
  go_enter Tryz.func113, Tryz.ntmps113
  go_wp2_with fail
  go_region
  obtain ⟨f, hf⟩ : ∃ f, p / 8 = f := ⟨_, rfl⟩
  obtain ⟨r, hr⟩ : ∃ r, p % 8 = r := ⟨_, rfl⟩
  obtain ⟨M, hM⟩ : ∃ M, (r + k + 7) / 8 = M := ⟨_, rfl⟩
  have hMi : ((r : Int) + (k : Int) + 7) / 8 = (M : Int) := by omega
  rw [show (p : Int) / 8 = ((f : Nat) : Int) by omega, show (p : Int) % 8 = ((r : Nat) : Int) by omega]
  have hr8 : r < 8 := by omega
  have hM5 : M ≤ 5 := by omega
  have hfM : f + M ≤ n := by omega
  have HP := Lib.hid (And.intro hf (And.intro hr hM))
  clear hf hr hM
  go_wp2_with fail
  go_loopw [7, 24] (fun h i wr => ∃ q : Nat, q ≤ M ∧ h = .int .u64 ((numL ((l.drop f).take q) : Nat) : Int) ∧ i = .int .i64 q ∧ wr = w.drew) (fun _ i _ => M - (intOf i).toNat)
  case atStart => exact ⟨0, by omega, rfl, rfl, rfl⟩
  case round =>
    obtain ⟨q, hq, rfl, rfl, rfl⟩ := hrel
    by_cases hlt : q < M
    · have hdq : decide ((q : Int) < (M : Int)) = true := decide_eq_true (by omega)
      have hc0 := HR.out.cell0
      obtain ⟨b, o, x, rfl, hx, hcx⟩ := HR.out.rd.at8 (k := f + q) (by omega)
      have HX := Lib.hid hx
      have hH : numL ((l.drop f).take q) < 2 ^ (8 * q) := Nat.lt_of_lt_of_le (numL_lt _) (Nat.pow_le_pow_right (by decide) (by rw [List.length_take]; omega))
      have HS : RowKit.Hid (numL ((l.drop f).take (q + 1)) = numL ((l.drop f).take q) + x.toNat * 2 ^ (8 * q)) := Lib.hid (held_more l f q x hx)
      generalize numL ((l.drop f).take q) = h at hH HS ⊢
      obtain ⟨s, hs⟩ : ∃ s, 8 * q = s := ⟨_, rfl⟩
      have hsi : 8 * (q : Int) = (s : Int) := by omega
      have hs40 : s ≤ 32 := by omega
      rw [hs] at hH HS
      have e0 := wrap_u64_nat x.toNat (Nat.lt_trans x.toNat_lt (by decide))
      have e1 := or64 h s x hH hs40
      have HH := Lib.hid hH
      clear hx hH hs
      go_wp2_with fail
      go_roundw
      case rel => exact ⟨q + 1, by omega, by rw [HS.out]; simp, by simp, trivial⟩
      case measure => simp [intOf]; omega
    · have hqn : q = M := by omega
      subst hqn
      have hdq : decide ((q : Int) < (q : Int)) = false := decide_eq_false (by omega)
      have hH : numL ((l.drop f).take q) < 18446744073709551616 := Nat.lt_of_lt_of_le (numL_lt _) (by
        rw [List.length_take]
        exact Nat.le_trans (Nat.pow_le_pow_right (by decide) (show 8 * min q (l.drop f).length ≤ 40 by omega)) (by decide))
      have HE : RowKit.Hid (fld (numL l) p k = numL ((l.drop f).take q) / 2 ^ r % 2 ^ k) := Lib.hid (by
        obtain ⟨h1, h2, h3⟩ := HP.out
        rw [← h1, ← h2]
        exact (held_fld l p k q (by omega) (by have := HL.out; omega)).symm)
      generalize numL ((l.drop f).take q) = h at hH HE ⊢
      have e1 := and64 h r k hH hk
      have HH := Lib.hid hH
      clear hH
      go_wp2_with fail
      go_region
      go_wp2_with fail
      go_ret
      refine ⟨?_, 2, rfl⟩
      rw [HE.out]
      exact congrArg (fun z => Ending.returned (Value.int .u32 z)) e1

set_option maxHeartbeats 400000 in
theorem newReader_any (A : Option Addr) (n c : Nat) (l : List UInt8) (w : World) (hr : Rd w w.heap.size A n (us l)) (hA : A = none → c = 0) (hn : n ≤ 1000000) :
    Calls Tryz.prog 83 #[.slice A n c] w fun e w' => ∃ g A' c', e = .returned (.pointer (some ⟨g, 0, none⟩)) ∧ w.heap.size ≤ g ∧ Row w' g #[.slice A' n c', .int .i64 0] 158 ∧ (A' = none → c' = 0) ∧ Rd w' g A' n (us l) ∧ (∀ b o, A' = some ⟨b, o, none⟩ → w.heap.size ≤ b) ∧ (A' = none ∨ ∃ b o, A' = some ⟨b, o, none⟩) ∧ n ≤ c' ∧ w.grownBy w' none := by
  have hl : l.length = n := by have := hr.1; rwa [us_length] at this
  have HC := Lib.hid (clone_any A n c l w hr hA hn)
  have hb : ∀ (A : Option Addr) (c : Nat), Tryz.prog.built 158 [(0, .slice A n c)] = some #[.slice A n c, .int .i64 0] := fun A c => by kernel_rfl
  clear hr hA
  go_enter Tryz.func83, Tryz.ntmps83
  go_wp2_with fail
  refine HC.out.mono ?_
  rintro e w1 ⟨u, rfl, ho, hg⟩
  obtain ⟨A1, c1, hu⟩ := ho.slice
  rw [hl] at hu
  subst hu
  have HF := Lib.hid (show w1.heap.size ≤ w1.heap.size ∧ Row (w1.alloc (.cells #[.slice A1 n c1, .int .i64 0] 158)) w1.heap.size #[.slice A1 n c1, .int .i64 0] 158 ∧ Rd (w1.alloc (.cells #[.slice A1 n c1, .int .i64 0] 158)) w1.heap.size A1 n (us l) ∧ w.grownBy (w1.alloc (.cells #[.slice A1 n c1, .int .i64 0] 158)) none from
    ⟨Nat.le_refl _, Row.new _ _ _, ho.rd.2.below ((Below.refl _ _).alloc (Nat.le_refl _) _), hg.trans (World.grownBy_alloc _ _ _)⟩)
  have HO := Lib.hid ho
  have HG := Lib.hid hg
  clear ho hg HC
  go_wp2_with fail
  go_ret
  refine ⟨w1.heap.size, A1, c1, rfl, HG.out.size, HF.out.2.1, noCap' HO.out, HF.out.2.2.1, ?_, own_form HO.out, own_le HO.out, HF.out.2.2.2⟩
  intro b o e
  exact (World.ownsRow.lt HO.out b (by rw [e]; rfl)).1

/-- Bits: the error, the number, where the reader is then. -/
def bE (T p : Nat) (n : Int) : Nat := if n < 0 ∨ 32 < n then 1 else if 8 * T < p + n.toNat then 10 else 0
def bX (N T p : Nat) (n : Int) : Nat := if bE T p n = 0 then fld N p n.toNat else 0
def bP (T p : Nat) (n : Int) : Nat := if bE T p n = 0 then p + n.toNat else p
/-- Peek: how many bits. -/
def pN (T p : Nat) (n : Int) : Nat := if n < 0 ∨ 32 < n then 0 else min n.toNat (8 * T - p)
/-- Bytes: the error, the bytes, where the reader is then. -/
def yE (T p : Nat) (n : Int) : Nat := if n < 0 then 1 else if p % 8 ≠ 0 then 2 else if (8 * T - p) / 8 < n.toNat then 10 else 0
def yB (l : List UInt8) (p : Nat) (n : Int) : List UInt8 := if yE l.length p n = 0 then (l.drop (p / 8)).take n.toNat else []
def yP (T p : Nat) (n : Int) : Nat := if yE T p n = 0 then p + 8 * n.toNat else p

theorem b_out {T p : Nat} {n : Int} (h : n < 0 ∨ 32 < n) : bE T p n = 1 := by unfold bE; rw [if_pos h]
theorem b_end {T p : Nat} {n : Int} (h : ¬ (n < 0 ∨ 32 < n)) (h2 : 8 * T < p + n.toNat) : bE T p n = 10 := by unfold bE; rw [if_neg h, if_pos h2]
theorem b_ok {T p : Nat} {n : Int} (h : ¬ (n < 0 ∨ 32 < n)) (h2 : ¬ 8 * T < p + n.toNat) : bE T p n = 0 := by unfold bE; rw [if_neg h, if_neg h2]
theorem bP_le {T p : Nat} (n : Int) (h : p ≤ 8 * T) : bP T p n ≤ 8 * T := by
  unfold bP
  by_cases h1 : n < 0 ∨ 32 < n
  · rw [b_out h1]; simpa using h
  · by_cases h2 : 8 * T < p + n.toNat
    · rw [b_end h1 h2]; simpa using h
    · rw [b_ok h1 h2]; simp; omega
theorem yP_le {T p : Nat} (n : Int) (h : p ≤ 8 * T) : yP T p n ≤ 8 * T := by
  unfold yP yE
  by_cases h1 : n < 0
  · rw [if_pos h1]; simpa using h
  · by_cases h2 : p % 8 ≠ 0
    · rw [if_neg h1, if_pos h2]; simpa using h
    · by_cases h3 : (8 * T - p) / 8 < n.toNat
      · rw [if_neg h1, if_neg h2, if_pos h3]; simpa using h
      · rw [if_neg h1, if_neg h2, if_neg h3]; simp; omega
end Go.Proofs.YtpnnlhegncbfaaaGreatDoor
namespace Go.Proofs.YtpnnlhegncbfaaaGreatDoor
set_option maxRecDepth 20000
open Go.RowKit

/-- How many bits 0 make whole bytes. -/
def gapR (p : Nat) : Nat := (8 - p % 8) % 8

set_option maxHeartbeats 400000 in
theorem rbits_any {S : List Nat} {A : Option Addr} {n c : Nat} {l : List UInt8} {p : Nat} (g : Nat) (k : Int) (w : World) (hR : RA w S g A n c l p) (hS : g ∈ S) (hn : n ≤ 1000000) :
    Calls Tryz.prog 107 #[.pointer (some ⟨g, 0, none⟩), .int .i64 k] w fun e w' => e = .returned (.tuple #[.int .u32 (bX (numL l) n p k : Int), errV (bE n p k)]) ∧ RA w' S g A n c l (bP n p k) ∧ w.grownBy w' (some g) := by
  have HR := Lib.hid hR
  have HS := Lib.hid hS
  clear hR hS
  by_cases h1 : k < 0 ∨ 32 < k
  · have hx : bX (numL l) n p k = 0 := by unfold bX; rw [b_out h1]; rfl
    have hp : bP n p k = p := by unfold bP; rw [b_out h1]; rfl
    rw [hx, hp, b_out h1]
    clear hx hp
    rcases h1 with h | h
    · have h1 : decide (k < 0) = true := decide_eq_true h
      go_enter Tryz.func107, Tryz.ntmps107
      go_wp2_with fail
      go_ret2
      exact ⟨rfl, HR.out, World.grownBy.refl _ _⟩
    · have h1 : decide (k < 0) = false := decide_eq_false (by omega)
      have h2 : decide (32 < k) = true := decide_eq_true h
      go_enter Tryz.func107, Tryz.ntmps107
      go_wp2_with fail
      go_ret2
      exact ⟨rfl, HR.out, World.grownBy.refl _ _⟩
  · obtain ⟨q, rfl⟩ : ∃ q : Nat, k = (q : Int) := ⟨k.toNat, by omega⟩
    have h3 : decide ((q : Int) < 0) = false := decide_eq_false (by omega)
    have h4 : decide (32 < (q : Int)) = false := decide_eq_false (by omega)
    by_cases h2 : 8 * n < p + ((q : Nat) : Int).toNat
    · have hx : bX (numL l) n p q = 0 := by unfold bX; rw [b_end h1 h2]; rfl
      have hp : bP n p q = p := by unfold bP; rw [b_end h1 h2]; rfl
      rw [hx, hp, b_end h1 h2]
      simp only [Int.toNat_natCast] at h2
      have hd : decide (((8 * n - p : Nat) : Int) < (q : Int)) = true := decide_eq_true (by have := HR.out.le; omega)
      clear hx hp h1
      go_enter Tryz.func107, Tryz.ntmps107
      go_wp2_with fail
      refine (left_any g w HR.out hn).mono ?_
      rintro e w1 ⟨rfl, m, rfl⟩
      generalize ((8 * n - p : Nat) : Int) = z at hd ⊢
      have HD := Lib.hid (And.intro (HR.out.drewN m) (grown_drewN w m))
      generalize w.drewN m = w1 at HD ⊢
      go_wp2_with fail
      go_ret2
      exact ⟨rfl, HD.out.1, ⟨HD.out.2.os, HD.out.2.tape, HD.out.2.output, HD.out.2.size, fun k hk _ => HD.out.2.block k hk (by simp)⟩⟩
    · have hx : bX (numL l) n p q = fld (numL l) p q := by unfold bX; rw [b_ok h1 h2]; rfl
      have hp : bP n p q = p + q := by unfold bP; rw [b_ok h1 h2]; rfl
      obtain ⟨x, HX⟩ : ∃ x, RowKit.Hid (fld (numL l) p q = x) := ⟨_, Lib.hid rfl⟩
      rw [hx, hp, b_ok h1 h2, HX.out]
      simp only [Int.toNat_natCast] at h2
      have hd : decide (((8 * n - p : Nat) : Int) < (q : Int)) = false := decide_eq_false (by have := HR.out.le; omega)
      have hpb : p ≤ 8000000 := by have := HR.out.le; omega
      have hq : q ≤ 32 := by omega
      clear hx hp h1
      go_enter Tryz.func107, Tryz.ntmps107
      go_wp2_with fail
      refine (left_any g w HR.out hn).mono ?_
      rintro e w1 ⟨rfl, m, rfl⟩
      generalize ((8 * n - p : Nat) : Int) = z at hd ⊢
      have HD := Lib.hid (And.intro (HR.out.drewN m) (grown_drewN w m))
      generalize w.drewN m = w1 at HD ⊢
      go_wp2_with fail
      refine (ahead_any g q w1 HD.out.1 hn hq (by omega)).mono ?_
      rintro e w2 ⟨rfl, m2, rfl⟩
      rw [HX.out]
      have HD2 := Lib.hid (And.intro (HD.out.1.drewN m2) (HD.out.2.trans (grown_drewN w1 m2)))
      generalize w1.drewN m2 = w2 at HD2 ⊢
      clear HD
      have hc1 := HD2.out.1.cell1
      have hf1 := HD2.out.1.row.thawed 1
      have HD3 := Lib.hid (And.intro (HD2.out.1.set1 HS.out (p + q) (by omega) ((p : Int) + (q : Int)) (by omega)) (grown_setCell w2 g 1 (.int .i64 ((p : Int) + (q : Int)))))
      go_wp2_with fail
      go_ret2
      exact ⟨rfl, HD3.out.1, ⟨HD2.out.2.os, HD2.out.2.tape, HD2.out.2.output, Nat.le_trans HD2.out.2.size HD3.out.2.size, fun k hk hne => (HD3.out.2.block k (Nat.lt_of_lt_of_le hk HD2.out.2.size) hne).trans (HD2.out.2.block k hk (by simp))⟩⟩

theorem fld_zero (N p : Nat) : fld N p 0 = 0 := by unfold fld; simp [Nat.mod_one]

set_option maxHeartbeats 400000 in
theorem rpeek_any {S : List Nat} {A : Option Addr} {n c : Nat} {l : List UInt8} {p : Nat} (g : Nat) (k : Int) (w : World) (hR : RA w S g A n c l p) (hn : n ≤ 1000000) :
    Calls Tryz.prog 127 #[.pointer (some ⟨g, 0, none⟩), .int .i64 k] w fun e w' => e = .returned (.tuple #[.int .u32 (fld (numL l) p (pN n p k) : Int), .int .i64 (pN n p k : Int)]) ∧ ∃ m, w' = w.drewN m := by
  have HR := Lib.hid hR
  clear hR
  by_cases h1 : k < 0 ∨ 32 < k
  · have hp : pN n p k = 0 := by unfold pN; rw [if_pos h1]
    rw [hp, fld_zero]
    clear hp
    rcases h1 with h | h
    · have h1 : decide (k < 0) = true := decide_eq_true h
      go_enter Tryz.func127, Tryz.ntmps127
      go_wp2_with fail
      go_ret2
      exact ⟨rfl, 0, rfl⟩
    · have h1 : decide (k < 0) = false := decide_eq_false (by omega)
      have h2 : decide (32 < k) = true := decide_eq_true h
      go_enter Tryz.func127, Tryz.ntmps127
      go_wp2_with fail
      go_ret2
      exact ⟨rfl, 0, rfl⟩
  · obtain ⟨q, rfl⟩ : ∃ q : Nat, k = (q : Int) := ⟨k.toNat, by omega⟩
    have h3 : decide ((q : Int) < 0) = false := decide_eq_false (by omega)
    have h4 : decide (32 < (q : Int)) = false := decide_eq_false (by omega)
    have hp : pN n p q = min q (8 * n - p) := by unfold pN; rw [if_neg h1]; rfl
    obtain ⟨z, hz⟩ : ∃ z, 8 * n - p = z := ⟨_, rfl⟩
    have hzp : p + z ≤ 8 * n := by have := HR.out.le; omega
    rw [hp, hz]
    have HZ := Lib.hid hz
    have hq : q ≤ 32 := by omega
    have hzb : z ≤ 8000000 := by omega
    clear hp h1 hz
    by_cases hqz : q ≤ z
    · obtain ⟨x, HX⟩ : ∃ x, RowKit.Hid (fld (numL l) p q = x) := ⟨_, Lib.hid rfl⟩
      rw [Nat.min_eq_left hqz, HX.out]
      go_enter Tryz.func127, Tryz.ntmps127
      go_wp2_with fail
      refine (left_any g w HR.out hn).mono ?_
      rintro e w1 ⟨rfl, m, rfl⟩
      rw [HZ.out]
      have HD := Lib.hid (HR.out.drewN m)
      go_wp2_with fail
      refine (ahead_any g q _ HD.out hn hq (by omega)).mono ?_
      rintro e w2 ⟨rfl, m2, rfl⟩
      rw [HX.out]
      go_wp2_with fail
      go_ret2
      exact ⟨rfl, m + m2, rfl⟩
    · obtain ⟨x, HX⟩ : ∃ x, RowKit.Hid (fld (numL l) p z = x) := ⟨_, Lib.hid rfl⟩
      rw [Nat.min_eq_right (by omega), HX.out]
      go_enter Tryz.func127, Tryz.ntmps127
      go_wp2_with fail
      refine (left_any g w HR.out hn).mono ?_
      rintro e w1 ⟨rfl, m, rfl⟩
      rw [HZ.out]
      have HD := Lib.hid (HR.out.drewN m)
      go_wp2_with fail
      refine (ahead_any g z _ HD.out hn (by omega) (by omega)).mono ?_
      rintro e w2 ⟨rfl, m2, rfl⟩
      rw [HX.out]
      go_wp2_with fail
      go_ret2
      exact ⟨rfl, m + m2, rfl⟩

theorem y_out {T p : Nat} {n : Int} (h : n < 0) : yE T p n = 1 := by unfold yE; rw [if_pos h]
theorem y_form {T p : Nat} {n : Int} (h : ¬ n < 0) (h2 : p % 8 ≠ 0) : yE T p n = 2 := by unfold yE; rw [if_neg h, if_pos h2]
theorem y_end {T p : Nat} {n : Int} (h : ¬ n < 0) (h2 : ¬ p % 8 ≠ 0) (h3 : (8 * T - p) / 8 < n.toNat) : yE T p n = 10 := by unfold yE; rw [if_neg h, if_neg h2, if_pos h3]
theorem y_ok {T p : Nat} {n : Int} (h : ¬ n < 0) (h2 : ¬ p % 8 ≠ 0) (h3 : ¬ (8 * T - p) / 8 < n.toNat) : yE T p n = 0 := by unfold yE; rw [if_neg h, if_neg h2, if_neg h3]
theorem yB_no {l : List UInt8} {p : Nat} {n : Int} (h : yE l.length p n ≠ 0) : yB l p n = [] := by unfold yB; rw [if_neg h]
theorem yP_no {T p : Nat} {n : Int} (h : yE T p n ≠ 0) : yP T p n = p := by unfold yP; rw [if_neg h]
end Go.Proofs.YtpnnlhegncbfaaaGreatDoor
