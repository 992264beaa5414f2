
/- Contracts of a Reader's Align and Bytes. -/

/- Contracts of guard's functions. -/

/- Codes told by their lengths, as plain functions: counts, first codes, starts, each sign's code, and what bits begin with. No program is named here. -/
import Derived.Test.YtpnnlhegncbfaaaGreatDoorGroupB
import Derived.Defers
import Derived.Recover
import Derived.Test.YtpnnlhegncbfaaaGreatDoorGroupA
namespace Go.Proofs.YtpnnlhegncbfaaaGreatDoor
set_option maxRecDepth 20000
open Go.RowKit

set_option maxHeartbeats 400000 in
theorem ralign_any {S : List Nat} {A : Option Addr} {n c : Nat} {l : List UInt8} {p : Nat} (g : Nat) (w : World) (hR : RA w S g A n c l p) (hS : g ∈ S) (hn : n ≤ 1000000) :
    Calls Tryz.prog 114 #[.pointer (some ⟨g, 0, none⟩)] w fun e w' => e = .returned (.int .i64 (gapR p : Int)) ∧ RA w' S g A n c l (p + gapR p) ∧ w.grownBy w' (some g) := by
  have hc1 := hR.cell1
  have hf1 := hR.row.thawed 1
  have hp : p ≤ 8000000 := by have := hR.le; omega
  obtain ⟨r, hr⟩ : ∃ r, gapR p = r := ⟨_, rfl⟩
  have hg : (8 - (p : Int) % 8) % 8 = (r : Int) := by rw [← hr]; unfold gapR; omega
  have hr8 : r < 8 := by rw [← hr]; unfold gapR; omega
  have HD := Lib.hid (And.intro (hR.set1 hS (p + r) (by have := hR.le; rw [← hr]; unfold gapR; omega) ((p : Int) + (r : Int)) (by omega)) (grown_setCell w g 1 (.int .i64 ((p : Int) + (r : Int)))))
  rw [hr]
  clear hR hr hS
  go_enter Tryz.func114, Tryz.ntmps114
  go_wp2_with fail
  go_ret
  exact ⟨congrArg (fun z => Ending.returned (Value.int .i64 z)) hg, HD.out.1, HD.out.2⟩


set_option maxHeartbeats 1000000 in
theorem rbytes_any {S : List Nat} {A : Option Addr} {n c : Nat} {l : List UInt8} {p : Nat} (g : Nat) (k : Int) (w : World) (hR : RA w S g A n c l p) (hS : g ∈ S) (hn : n ≤ 1000000) :
    Calls Tryz.prog 117 #[.pointer (some ⟨g, 0, none⟩), .int .i64 k] w fun e w' => ∃ u, e = .returned (.tuple #[u, errV (yE n p k)]) ∧ Own w' w.heap.size u (yB l p k) ∧ RA w' S g A n c l (yP n p k) ∧ w.grownBy w' (some g) := by
  have hl := hR.len
  have hp8 : p ≤ 8000000 := by have := hR.le; omega
  have hc0 := hR.cell0
  have hc1 := hR.cell1
  have HR := Lib.hid hR
  have HS := Lib.hid hS
  have HL := Lib.hid hl
  clear hR hS
  by_cases h1 : k < 0
  · have he : yE n p k = 1 := y_out h1
    have hB : yB l p k = [] := yB_no (by rw [hl, he]; decide)
    have hP : yP n p k = p := yP_no (by rw [he]; decide)
    rw [he, hB, hP]
    have hd : decide (k < 0) = true := decide_eq_true h1
    clear he hB hP hl
    go_enter Tryz.func117, Tryz.ntmps117
    go_wp2_with fail
    go_ret2
    exact ⟨_, rfl, Own.nil _ _, HR.out, World.grownBy.refl _ _⟩
  · have hd : decide (k < 0) = false := decide_eq_false h1
    obtain ⟨q, rfl⟩ : ∃ q : Nat, k = (q : Int) := ⟨k.toNat, by omega⟩
    by_cases h2 : p % 8 ≠ 0
    · have he : yE n p q = 2 := y_form h1 h2
      have hB : yB l p q = [] := yB_no (by rw [hl, he]; decide)
      have hP : yP n p q = p := yP_no (by rw [he]; decide)
      rw [he, hB, hP]
      have hd2 : ((p : Int) % 8 != 0) = true := by rw [bne_iff_ne]; omega
      clear he hB hP hl h1
      go_enter Tryz.func117, Tryz.ntmps117
      go_wp2_with fail
      go_ret2
      exact ⟨_, rfl, Own.nil _ _, HR.out, World.grownBy.refl _ _⟩
    · have hd2 : ((p : Int) % 8 != 0) = false := by rw [bne_eq_false_iff_eq]; omega
      obtain ⟨z, hz⟩ : ∃ z, 8 * n - p = z := ⟨_, rfl⟩
      have HZ := Lib.hid hz
      by_cases h3 : (8 * n - p) / 8 < ((q : Nat) : Int).toNat
      · have he : yE n p q = 10 := y_end h1 h2 h3
        have hB : yB l p q = [] := yB_no (by rw [hl, he]; decide)
        have hP : yP n p q = p := yP_no (by rw [he]; decide)
        rw [he, hB, hP]
        simp only [Int.toNat_natCast] at h3
        have hd3 : decide ((z : Int) / 8 < (q : Int)) = true := decide_eq_true (by omega)
        have hzb : z ≤ 8000000 := by omega
        clear he hB hP hl h1 h2 h3 hz
        go_enter Tryz.func117, Tryz.ntmps117
        go_wp2_with fail
        refine (left_any g w HR.out hn).mono ?_
        rintro e w1 ⟨rfl, m, rfl⟩
        rw [HZ.out]
        have HD := Lib.hid (And.intro (HR.out.drewN m) (grown_drewN w m))
        generalize w.drewN m = w1 at HD ⊢
        go_wp2_with fail
        go_ret2
        exact ⟨_, rfl, Own.nil _ _, HD.out.1, grown_any HD.out.2 _⟩
      · have he : yE n p q = 0 := y_ok h1 h2 h3
        have hB : yB l p q = (l.drop (p / 8)).take q := by unfold yB; rw [hl, he]; rfl
        have hP : yP n p q = p + 8 * q := by unfold yP; rw [he]; rfl
        rw [he, hB, hP]
        simp only [Int.toNat_natCast] at h3
        have hle := HR.out.le
        obtain ⟨f, hf⟩ : ∃ f, p / 8 = f := ⟨_, rfl⟩
        have hfi : (p : Int) / 8 = (f : Int) := by omega
        rw [hf]
        have hd3 : decide ((z : Int) / 8 < (q : Int)) = false := decide_eq_false (by omega)
        have hzb : z ≤ 8000000 := by omega
        have hfq : f + q ≤ n := by omega
        have hpq : p + 8 * q ≤ 8 * n := by omega
        clear he hB hP hl h1 h2 h3 hz hle hf
        rcases HR.out.form with hA | ⟨b, o, hA⟩
        · subst hA
          have hn0 : n = 0 := by
            rcases Nat.eq_zero_or_pos n with h0 | h0
            · exact h0
            · obtain ⟨_, _, he, _⟩ := HR.out.rd.2 h0; cases he
          subst hn0
          obtain ⟨rfl, rfl, rfl⟩ : f = 0 ∧ q = 0 ∧ p = 0 := by omega
          have hcc := HR.out.cap rfl
          subst hcc
          have hl0 : l = [] := List.eq_nil_of_length_eq_zero HL.out
          subst hl0
          go_enter Tryz.func117, Tryz.ntmps117
          go_wp2_with fail
          refine (left_any g w HR.out hn).mono ?_
          rintro e w1 ⟨rfl, m, rfl⟩
          rw [HZ.out]
          have HD := Lib.hid (And.intro (HR.out.drewN m) (grown_drewN w m))
          generalize w.drewN m = w1 at HD ⊢
          have hd0 := HD.out.1.cell0
          have hd1 := HD.out.1.cell1
          have hf1 := HD.out.1.row.thawed 1
          have HD3 := Lib.hid (And.intro (HD.out.1.set1 HS.out 0 (by omega) 0 rfl) (grown_setCell w1 g 1 (.int .i64 0)))
          go_wp2_with fail
          generalize w1.setCell ⟨g, 1, none⟩ (.int .i64 0) = w2 at HD3 ⊢
          refine (clone_any none 0 0 [] w2 ⟨rfl, fun h => by omega⟩ (fun _ => rfl) (by decide)).mono ?_
          rintro e w3 ⟨u, rfl, ho, hg⟩
          have HF := Lib.hid (And.intro ho hg)
          clear ho hg
          go_wp2_with fail
          go_ret2
          have h1 := HD.out.2.size
          have h2 := HD3.out.2.size
          refine ⟨u, rfl, own_mono HF.out.1 (by omega), HD3.out.1.still HF.out.2, ((grown_any HD.out.2 _).trans HD3.out.2).trans (grown_any HF.out.2 _)⟩
        · subst hA
          have hlc := HR.out.lc
          by_cases hcf : c = f
          · obtain rfl : q = 0 := by omega
            rw [List.take_zero]
            go_enter Tryz.func117, Tryz.ntmps117
            go_wp2_with fail
            refine (left_any g w HR.out hn).mono ?_
            rintro e w1 ⟨rfl, m, rfl⟩
            rw [HZ.out]
            have HD := Lib.hid (And.intro (HR.out.drewN m) (grown_drewN w m))
            generalize w.drewN m = w1 at HD ⊢
            have hd0 := HD.out.1.cell0
            have hd1 := HD.out.1.cell1
            have hf1 := HD.out.1.row.thawed 1
            have HD3 := Lib.hid (And.intro (HD.out.1.set1 HS.out (p + 8 * 0) (by omega) (p : Int) (by omega)) (grown_setCell w1 g 1 (.int .i64 (p : Int))))
            go_wp2_with fail
            generalize w1.setCell ⟨g, 1, none⟩ (.int .i64 (p : Int)) = w2 at HD3 ⊢
            refine (clone_any (some ⟨b, o, none⟩) 0 0 [] w2 ⟨rfl, fun h => by omega⟩ (fun h => by cases h) (by omega)).mono ?_
            rintro e w3 ⟨u, rfl, ho, hg⟩
            have HF := Lib.hid (And.intro ho hg)
            clear ho hg
            go_wp2_with fail
            go_ret2
            have h1 := HD.out.2.size
            have h2 := HD3.out.2.size
            refine ⟨u, rfl, own_mono HF.out.1 (by omega), HD3.out.1.still HF.out.2, ((grown_any HD.out.2 _).trans HD3.out.2).trans (grown_any HF.out.2 _)⟩
          · go_enter Tryz.func117, Tryz.ntmps117
            go_wp2_with fail
            refine (left_any g w HR.out hn).mono ?_
            rintro e w1 ⟨rfl, m, rfl⟩
            rw [HZ.out]
            have HD := Lib.hid (And.intro (HR.out.drewN m) (grown_drewN w m))
            generalize w.drewN m = w1 at HD ⊢
            have hd0 := HD.out.1.cell0
            have hd1 := HD.out.1.cell1
            have hf1 := HD.out.1.row.thawed 1
            have HD3 := Lib.hid (And.intro (HD.out.1.set1 HS.out (p + 8 * q) (by omega) ((p : Int) + 8 * (q : Int)) (by omega)) (grown_setCell w1 g 1 (.int .i64 ((p : Int) + 8 * (q : Int)))))
            go_wp2_with fail
            generalize w1.setCell ⟨g, 1, none⟩ (.int .i64 ((p : Int) + 8 * (q : Int))) = w2 at HD3 ⊢
            have hpart : Rd w2 w2.heap.size (some ⟨b, o + f, none⟩) q (us ((l.drop f).take q)) := by
              have := HD3.out.1.rd.rd.part f q hfq
              rwa [show ((us l).drop f).take q = us ((l.drop f).take q) by simp [us]] at this
            refine (clone_any (some ⟨b, o + f, none⟩) q _ _ w2 hpart (fun h => by cases h) (by omega)).mono ?_
            rintro e w3 ⟨u, rfl, ho, hg⟩
            have HF := Lib.hid (And.intro ho hg)
            clear ho hg hpart
            go_wp2_with fail
            go_ret2
            have h1 := HD.out.2.size
            have h2 := HD3.out.2.size
            refine ⟨u, rfl, own_mono HF.out.1 (by omega), HD3.out.1.still HF.out.2, ((grown_any HD.out.2 _).trans HD3.out.2).trans (grown_any HF.out.2 _)⟩
end Go.Proofs.YtpnnlhegncbfaaaGreatDoor
namespace Go.Proofs.YtpnnlhegncbfaaaGreatDoor
set_option maxRecDepth 20000
open Go.RowKit

theorem ta69 (x : Value) (w : World) : (Instr.typeAssert (.iface 75 x) 25 75 true).run Tryz.prog w = .ok (.tuple #[x, .bool true]) w := by kernel_rfl

theorem ta39 (x : Value) (w : World) : (Instr.typeAssert (.iface 39 x) 25 75 true).run Tryz.prog w = .ok (.tuple #[.pointer none, .bool false]) w := by kernel_rfl

theorem tb69 (x : Value) (w : World) : (Instr.typeAssert (.iface 75 x) 25 39 true).run Tryz.prog w = .ok (.tuple #[.int .i64 0, .bool false]) w := by kernel_rfl

theorem tb39 (x : Value) (w : World) : (Instr.typeAssert (.iface 39 x) 25 39 true).run Tryz.prog w = .ok (.tuple #[x, .bool true]) w := by kernel_rfl

theorem tc69 (x : Value) (w : World) : (Instr.typeAssert (.iface 75 x) 20 75 true).run Tryz.prog w = .ok (.tuple #[x, .bool true]) w := by kernel_rfl

theorem tc3 (x : Value) (w : World) : (Instr.typeAssert (.iface 3 x) 20 75 true).run Tryz.prog w = .ok (.tuple #[.pointer none, .bool false]) w := by kernel_rfl

def flt (a : Addr) : List PanicEntry := [{ v := .iface 75 (.pointer (some a)), recovered := false }]

set_option maxHeartbeats 400000 in
theorem throw_any (c : Int) (s : ByteArray) (w : World) :
    Calls Tryz.prog 69 #[.int .i64 c, .string s] w fun e w' => e = .panicked (flt ⟨w.heap.size, 0, none⟩) ∧ w.alloc (.cells #[.int .i64 c, .string s] 80) = w' := by
  go_enter Tryz.func69, Tryz.ntmps69
  go_wp2
  exact ⟨rfl, rfl, rfl⟩

set_option maxHeartbeats 400000 in
theorem code_fault (b o : Nat) (c : Int) (w : World) (hc : w.cell? ⟨b, o, none⟩ = some (.int .i64 c)) : Calls Tryz.prog 25 #[.iface 75 (.pointer (some ⟨b, o, none⟩))] w fun e w' => e = .returned (.int .i64 c) ∧ w = w' := by
  have kta69 := ta69
  go_enter Tryz.func25, Tryz.ntmps25
  go_wp2
  go_ret
  exact ⟨rfl, rfl⟩

set_option maxHeartbeats 400000 in
theorem code_errno (c : Int) (w : World) : Calls Tryz.prog 25 #[.iface 39 (.int .i64 c)] w fun e w' => e = .returned (.int .i64 c) ∧ w = w' := by
  have kta39 := ta39
  have ktb39 := tb39
  go_enter Tryz.func25, Tryz.ntmps25
  go_wp2
  go_ret
  exact ⟨rfl, rfl⟩

set_option maxHeartbeats 400000 in
theorem where_errno (c : Int) (w : World) : Calls Tryz.prog 86 #[.iface 39 (.int .i64 c)] w fun e w' => e = .returned (.string ⟨#[]⟩) ∧ w = w' := by
  have kta39 := ta39
  go_enter Tryz.func86, Tryz.ntmps86
  go_wp2
  go_ret
  exact ⟨rfl, rfl⟩

def fin2 (n : Nat) (w : World) (a : Value) (b : Bool) : World := (w.setCell ⟨n, 0, none⟩ a).setCell ⟨n + 1, 0, none⟩ (.bool b)

def Two (n : Nat) (w : World) : Prop := (∃ v, w.cell? ⟨n, 0, none⟩ = some v) ∧ w.frozen? ⟨n, 0, none⟩ = false ∧ (∃ v, w.cell? ⟨n + 1, 0, none⟩ = some v) ∧ w.frozen? ⟨n + 1, 0, none⟩ = false

set_option maxHeartbeats 400000 in
theorem caught (n : Nat) (x : Option Addr) (older : List PanicEntry) (w : World) (h : Two n w) :
    CallsD Tryz.prog 49 #[.pointer (some ⟨n, 0, none⟩), .pointer (some ⟨n + 1, 0, none⟩)] (.panicking ({ v := .iface 75 (.pointer x), recovered := false } :: older)) w fun e u' w' =>
      e = .returned (.tuple #[]) ∧ u' = .panicking ({ v := .iface 75 (.pointer x), recovered := true } :: older) ∧ fin2 n w (.pointer x) true = w' := by
  obtain ⟨⟨v1, c1⟩, f1, ⟨v2, c2⟩, f2⟩ := h
  have k1 := tc69
  refine callsD_of_wpS Tryz.func49 rfl fun c₀ cs hu => ?_
  apply wpS_seq
  apply wpS_region
  simp [wpOpsS, go_sem, recoverD, hu, Tryz.ntmps49, Exit.thenS]
  clear hu
  refine wpS_of_wp ?_
  change Code.wp _ _ _ ⟨#[.pointer (some ⟨n, 0, none⟩), .pointer (some ⟨n + 1, 0, none⟩), .iface 75 (.pointer x), .iface 75 (.pointer x), undef, undef, undef, undef, undef, undef, undef, undef, undef, undef], []⟩ _
  generalize hQ : (fun (e : Exit) (a' : Act) (w' : World) => bodyPostS _ _ _ _ _ e a' _ w') = Q
  have HQ := Lib.hid hQ
  clear hQ
  go_wp2
  rw [← HQ.out]
  exact ⟨rfl, _, rfl, .tuple #[], by simp [results, Tryz.results49], rfl, rfl, rfl⟩

set_option maxHeartbeats 400000 in
theorem passed (n : Nat) (x : Int) (older : List PanicEntry) (w : World) (h : Two n w) :
    CallsD Tryz.prog 49 #[.pointer (some ⟨n, 0, none⟩), .pointer (some ⟨n + 1, 0, none⟩)] (.panicking ({ v := .iface 3 (.int .i64 x), recovered := false } :: older)) w fun e u' w' =>
      e = .panicked [{ v := .iface 3 (.int .i64 x), recovered := false }] ∧ u' = .panicking ({ v := .iface 3 (.int .i64 x), recovered := true } :: older) ∧ fin2 n w (.pointer none) false = w' := by
  obtain ⟨⟨v1, c1⟩, f1, ⟨v2, c2⟩, f2⟩ := h
  have k1 := tc3
  refine callsD_of_wpS Tryz.func49 rfl fun c₀ cs hu => ?_
  apply wpS_seq
  apply wpS_region
  simp [wpOpsS, go_sem, recoverD, hu, Tryz.ntmps49, Exit.thenS]
  clear hu
  refine wpS_of_wp ?_
  change Code.wp _ _ _ ⟨#[.pointer (some ⟨n, 0, none⟩), .pointer (some ⟨n + 1, 0, none⟩), .iface 3 (.int .i64 x), .iface 3 (.int .i64 x), undef, undef, undef, undef, undef, undef, undef, undef, undef, undef], []⟩ _
  generalize hQ : (fun (e : Exit) (a' : Act) (w' : World) => bodyPostS _ _ _ _ _ e a' _ w') = Q
  have HQ := Lib.hid hQ
  clear hQ
  go_wp2
  rw [← HQ.out]
  exact ⟨rfl, _, rfl, rfl, rfl, rfl⟩

set_option maxHeartbeats 400000 in
theorem idle (n : Nat) (w : World) :
    CallsD Tryz.prog 49 #[.pointer (some ⟨n, 0, none⟩), .pointer (some ⟨n + 1, 0, none⟩)] .returning w fun e u' w' =>
      e = .returned (.tuple #[]) ∧ u' = .returning ∧ w = w' := by
  refine callsD_of_wpS Tryz.func49 rfl fun c₀ cs hu => ?_
  apply wpS_seq
  apply wpS_region
  simp [wpOpsS, go_sem, recoverD, hu, Tryz.ntmps49, Exit.thenS]
  have hm : { c₀ with mode := .returning } = c₀ := by rw [← hu]
  have HM := Lib.hid hm
  clear hu hm
  refine wpS_of_wp ?_
  change Code.wp _ _ _ ⟨#[.pointer (some ⟨n, 0, none⟩), .pointer (some ⟨n + 1, 0, none⟩), .nilIface, .nilIface, undef, undef, undef, undef, undef, undef, undef, undef, undef, undef], []⟩ _
  generalize hQ : (fun (e : Exit) (a' : Act) (w' : World) => bodyPostS _ _ _ _ _ e a' _ w') = Q
  have HQ := Lib.hid hQ
  clear hQ
  go_wp2
  rw [← HQ.out]
  exact ⟨rfl, .returning, by rw [HM.out], .tuple #[], by simp [results, Tryz.results49], rfl, rfl, rfl⟩

theorem catch_cps (k : Nat) (first cap : Array Value) (w : World) (R F : Ending → World → Prop)
    (hcf : ∀ (a : Array Value) (w : World), (callFunc k a).run Tryz.prog w = .ok (.enter k a) w)
    (hcall : Calls Tryz.prog k (first ++ cap) ((w.alloc (.cells #[.pointer none] 75)).alloc (.cells #[.bool false] 4)) F)
    (h : ∀ e w1, F e w1 → Two w.heap.size w1 ∧ (
      (∃ v, e = .returned v ∧ R (.returned (.tuple #[.pointer none, .bool false])) (fin2 w.heap.size w1 (.pointer none) false)) ∨
      (∃ x older, e = .panicked ({ v := .iface 75 (.pointer x), recovered := false } :: older) ∧ older.dropWhile (!·.goexit) = [] ∧ R (.returned (.tuple #[.pointer x, .bool true])) (fin2 w.heap.size w1 (.pointer x) true)) ∨
      (∃ x older, e = .panicked ({ v := .iface 3 (.int .i64 x), recovered := false } :: older) ∧
        R (.panicked ({ v := .iface 3 (.int .i64 x), recovered := false } :: { v := .iface 3 (.int .i64 x), recovered := true } :: older)) (fin2 w.heap.size w1 (.pointer none) false)))) :
    Calls Tryz.prog 38 #[.func (.func k) first cap] w R := by
  have hmf : ∀ (fn : Fn) (first cap : Array Value) (w : World), (Instr.makeFunc fn first cap).run Tryz.prog w = .ok (.func fn first cap) w := fun _ _ _ _ => rfl
  have hnf : ∀ (fn : Fn) (first cap : Array Value) (w : World), (binOp BinOp.eql 1 (.func fn first cap) .nilFunc).run Tryz.prog w = .ok (.bool false) w := fun _ _ _ _ => by kernel_rfl
  have HC := Lib.hid hcall
  have HH := Lib.hid h
  clear hcall h
  go_enter_defers Tryz.func38, Tryz.ntmps38
  go_wp2_with fail
  refine HC.out.mono ?_
  intro e w1 hF
  obtain ⟨⟨⟨v1, c1⟩, f1, ⟨v2, c2⟩, f2⟩, hh⟩ := HH.out e w1 hF
  clear hF
  rcases hh with ⟨v, rfl, hR⟩ | ⟨x, older, rfl, hg, hR⟩ | ⟨x, older, rfl, hR⟩
  · have HR := Lib.hid hR
    clear hR
    go_wp2_with fail
    refine leaves_cons (f := 49) (args := #[.pointer (some ⟨w.heap.size, 0, none⟩), .pointer (some ⟨w.heap.size + 1, 0, none⟩)]) (by simp) (by simp [go_sem]) ?_
    refine (idle w.heap.size _).mono ?_
    rintro e u' w'' ⟨rfl, rfl, rfl⟩
    have HR2 := HR.out
    unfold fin2 at HR2
    simp [Leaves, settle, results, Tryz.results38, go_sem, c1, c2]
    exact HR2
  · refine leaves_cons (f := 49) (args := #[.pointer (some ⟨w.heap.size, 0, none⟩), .pointer (some ⟨w.heap.size + 1, 0, none⟩)]) (by simp) (by simp [go_sem]) ?_
    refine (caught w.heap.size x older w1 ⟨⟨v1, c1⟩, f1, ⟨v2, c2⟩, f2⟩).mono ?_
    rintro e u' w'' ⟨rfl, rfl, rfl⟩
    unfold fin2 at hR ⊢
    simp [Leaves, settle, results, Tryz.results38, go_sem, c1, c2, hg]
    exact hR
  · refine leaves_cons (f := 49) (args := #[.pointer (some ⟨w.heap.size, 0, none⟩), .pointer (some ⟨w.heap.size + 1, 0, none⟩)]) (by simp) (by simp [go_sem]) ?_
    refine (passed w.heap.size x older w1 ⟨⟨v1, c1⟩, f1, ⟨v2, c2⟩, f2⟩).mono ?_
    rintro e u' w'' ⟨rfl, rfl, rfl⟩
    exact hR

set_option maxHeartbeats 400000 in
theorem try_cps (k : Nat) (first cap : Array Value) (w : World) (R F : Ending → World → Prop)
    (hcf : ∀ (a : Array Value) (w : World), (callFunc k a).run Tryz.prog w = .ok (.enter k a) w)
    (hcall : Calls Tryz.prog k (first ++ cap) ((w.alloc (.cells #[.pointer none] 75)).alloc (.cells #[.bool false] 4)) F)
    (h : ∀ e w1, F e w1 → Two w.heap.size w1 ∧ (
      (∃ v, e = .returned v ∧ R (.returned .nilIface) (fin2 w.heap.size w1 (.pointer none) false)) ∨
      (∃ x older, e = .panicked ({ v := .iface 75 (.pointer x), recovered := false } :: older) ∧ older.dropWhile (!·.goexit) = [] ∧ R (.returned (.iface 75 (.pointer x))) (fin2 w.heap.size w1 (.pointer x) true)) ∨
      (∃ x older, e = .panicked ({ v := .iface 3 (.int .i64 x), recovered := false } :: older) ∧
        R (.panicked ({ v := .iface 3 (.int .i64 x), recovered := false } :: { v := .iface 3 (.int .i64 x), recovered := true } :: older)) (fin2 w.heap.size w1 (.pointer none) false)))) :
    Calls Tryz.prog 23 #[.func (.func k) first cap] w R := by
  have HF := Lib.hid hcf
  have HC := Lib.hid hcall
  have HH := Lib.hid h
  clear hcall h hcf
  go_enter Tryz.func23, Tryz.ntmps23
  go_wp2_with fail
  refine catch_cps k first cap w _ F HF.out HC.out ?_
  intro e w1 hF
  obtain ⟨h2, hh⟩ := HH.out e w1 hF
  refine ⟨h2, ?_⟩
  clear h2 hF HH
  rcases hh with ⟨v, rfl, hR⟩ | ⟨x, older, rfl, hg, hR⟩ | ⟨x, older, rfl, hR⟩
  · refine .inl ⟨v, rfl, ?_⟩
    have HR := Lib.hid hR
    clear hR
    go_wp2_with fail
    exact HR.out
  · refine .inr (.inl ⟨x, older, rfl, hg, ?_⟩)
    have HR := Lib.hid hR
    clear hR hg
    go_wp2_with fail
    exact HR.out
  · refine .inr (.inr ⟨x, older, rfl, ?_⟩)
    exact ⟨rfl, hR⟩

set_option maxHeartbeats 400000 in
theorem pass_nil (w : World) : Calls Tryz.prog 68 #[.nilIface] w fun e w' => e = .returned (.tuple #[]) ∧ w = w' := by
  go_enter Tryz.func68, Tryz.ntmps68
  go_wp2_with fail
  go_end0
  exact ⟨rfl, rfl⟩

set_option maxHeartbeats 400000 in
theorem pass_errno (c : Int) (w : World) : Calls Tryz.prog 68 #[.iface 39 (.int .i64 c)] w fun e w' => e = .panicked (flt ⟨w.heap.size, 0, none⟩) ∧ w.alloc (.cells #[.int .i64 c, .string ⟨#[]⟩] 80) = w' := by
  go_enter Tryz.func68, Tryz.ntmps68
  go_wp2_with fail
  refine (code_errno c w).mono ?_
  rintro e w' ⟨rfl, rfl⟩
  go_wp2_with fail
  refine (where_errno c w).mono ?_
  rintro e w' ⟨rfl, rfl⟩
  go_wp2_with fail
  refine (throw_any c _ w).mono ?_
  rintro e w' ⟨rfl, rfl⟩
  exact ⟨rfl, rfl, rfl⟩
end Go.Proofs.YtpnnlhegncbfaaaGreatDoor
namespace Go.Proofs.YtpnnlhegncbfaaaGreatDoor
set_option maxRecDepth 20000

/-- How many signs have the length k. -/
def cnt (l : List Nat) (k : Nat) : Nat := l.count k
/-- The first code of a length, by the counts. -/
def fst (c : Nat → Nat) : Nat → Nat
  | 0 => 0
  | 1 => 0
  | k + 2 => 2 * (fst c (k + 1) + c (k + 1))
/-- How many signs have a shorter code. -/
def st (c : Nat → Nat) : Nat → Nat
  | 0 => 0
  | 1 => 0
  | k + 2 => st c (k + 1) + c (k + 1)
theorem fst_succ (c : Nat → Nat) {k : Nat} (h : 1 ≤ k) : fst c (k + 1) = 2 * (fst c k + c k) := by
  obtain ⟨j, rfl⟩ : ∃ j, k = j + 1 := ⟨k - 1, by omega⟩
  rfl
theorem st_succ (c : Nat → Nat) {k : Nat} (h : 1 ≤ k) : st c (k + 1) = st c k + c k := by
  obtain ⟨j, rfl⟩ : ∃ j, k = j + 1 := ⟨k - 1, by omega⟩
  rfl
/-- The lengths don't overflow, up to n. -/
def okTo (c : Nat → Nat) (n : Nat) : Prop := ∀ k, k < n → k = 0 ∨ fst c k + c k ≤ 2 ^ k
instance (c : Nat → Nat) (n : Nat) : Decidable (okTo c n) := by unfold okTo; infer_instance
def okF (c : Nat → Nat) : Prop := okTo c 16
instance (c : Nat → Nat) : Decidable (okF c) := by unfold okF; infer_instance
theorem okTo_succ {c : Nat → Nat} {n : Nat} (h : okTo c n) (hn : fst c n + c n ≤ 2 ^ n) : okTo c (n + 1) := fun k hk => by
  rcases Nat.lt_or_ge k n with h1 | h1
  · exact h k h1
  · obtain rfl : k = n := by omega
    exact .inr hn
def loneF (c : Nat → Nat) : Prop := st c 16 = 0 ∨ (st c 16 = 1 ∧ c 1 = 1)
instance (c : Nat → Nat) : Decidable (loneF c) := by unfold loneF; infer_instance

theorem fst_le {c : Nat → Nat} (h : okF c) {k : Nat} (hk : k ≤ 16) : fst c k ≤ 2 ^ k := by
  rcases k with _ | _ | k
  · simp [fst]
  · simp [fst]
  · rw [fst_succ c (by omega)]
    rcases h (k + 1) (by omega) with h0 | h0
    · omega
    · rw [Nat.pow_succ]; omega
theorem fst_step (c : Nat → Nat) {j k : Nat} (hj : 1 ≤ j) (hk : j < k) : (fst c j + c j) * 2 ^ (k - j) ≤ fst c k := by
  induction k with
  | zero => omega
  | succ k ih =>
    rcases Nat.lt_or_ge j k with h | h
    · have h1 := ih h
      rw [fst_succ c (by omega), show k + 1 - j = (k - j) + 1 by omega, Nat.pow_succ, ← Nat.mul_assoc]
      omega
    · obtain rfl : j = k := by omega
      rw [fst_succ c hj, show j + 1 - j = 1 by omega]
      omega
theorem st_step (c : Nat → Nat) {j k : Nat} (hj : 1 ≤ j) (hk : j < k) : st c j + c j ≤ st c k := by
  induction k with
  | zero => omega
  | succ k ih =>
    rcases Nat.lt_or_ge j k with h | h
    · have h1 := ih h
      rw [st_succ c (by omega)]
      omega
    · obtain rfl : j = k := by omega
      rw [st_succ c hj]
      exact Nat.le_refl _
theorem cnt_cons (x : Nat) (l : List Nat) (k : Nat) : cnt (x :: l) k = (if x = k then 1 else 0) + cnt l k := by
  unfold cnt
  rw [List.count_cons]
  by_cases h : x = k
  · simp [h]; omega
  · simp [h]
theorem cnt_snoc (l : List Nat) (x k : Nat) : cnt (l ++ [x]) k = cnt l k + (if x = k then 1 else 0) := by
  unfold cnt
  rw [List.count_append, List.count_singleton]
  by_cases h : x = k
  · simp [h]
  · simp [h]
theorem cnt_le (l : List Nat) (k : Nat) : cnt l k ≤ l.length := List.count_le_length
theorem st_add (c d : Nat → Nat) (k : Nat) : st (fun j => c j + d j) k = st c k + st d k := by
  induction k with
  | zero => rfl
  | succ k ih =>
    rcases Nat.eq_zero_or_pos k with h | h
    · subst h; rfl
    · rw [st_succ _ h, st_succ _ h, st_succ _ h, ih]; omega
theorem st_zero (k : Nat) : st (fun _ => 0) k = 0 := by
  induction k with
  | zero => rfl
  | succ k ih =>
    rcases Nat.eq_zero_or_pos k with h | h
    · subst h; rfl
    · rw [st_succ _ h, ih]
theorem st_one (x k : Nat) : st (fun j => if x = j then 1 else 0) k = if 1 ≤ x ∧ x < k then 1 else 0 := by
  induction k with
  | zero => rw [if_neg (by omega)]; rfl
  | succ k ih =>
    rcases Nat.eq_zero_or_pos k with h | h
    · subst h; show 0 = _; rw [if_neg (by omega)]
    · rw [st_succ _ h, ih]
      by_cases h1 : x = k
      · subst h1; simp; omega
      · simp only [h1, if_false, Nat.add_zero]
        by_cases h2 : 1 ≤ x ∧ x < k
        · rw [if_pos h2, if_pos (by omega)]
        · rw [if_neg h2, if_neg (by omega)]
/-- Each length is from 0 to 15. -/
def Low (l : List Nat) : Prop := ∀ x ∈ l, x ≤ 15
theorem st_total (l : List Nat) (h : Low l) : st (cnt l) 16 + cnt l 0 = l.length := by
  induction l with
  | nil =>
    have : cnt ([] : List Nat) = fun _ => 0 := by funext k; rfl
    rw [this, st_zero]; rfl
  | cons x l ih =>
    have hl := ih (fun y hy => h y (List.mem_cons_of_mem _ hy))
    have hx := h x (by simp)
    have e : cnt (x :: l) = fun j => (if x = j then 1 else 0) + cnt l j := by funext k; exact cnt_cons x l k
    rw [e, st_add, st_one]
    simp only [List.length_cons]
    by_cases h0 : x = 0
    · subst h0; simp; omega
    · rw [if_pos (by omega), if_neg h0]; omega

/-- A sign's length. -/
def lenAt (l : List Nat) (s : Nat) : Nat := l.getD s 0
/-- How many signs ahead have the same length. -/
def rank (l : List Nat) (s : Nat) : Nat := cnt (l.take s) (lenAt l s)
/-- A sign's code. -/
def codeAt (l : List Nat) (s : Nat) : Nat := if lenAt l s = 0 then 0 else fst (cnt l) (lenAt l s) + rank l s
/-- Where a sign stands among those that have a code. -/
def posAt (l : List Nat) (s : Nat) : Nat := st (cnt l) (lenAt l s) + rank l s
theorem lenAt_eq {l : List Nat} {s : Nat} (h : s < l.length) : l[s]? = some (lenAt l s) := by
  unfold lenAt
  rw [List.getElem?_eq_getElem h, List.getD_eq_getElem?_getD, List.getElem?_eq_getElem h]; rfl
theorem lenAt_ge {l : List Nat} {s : Nat} (h : l.length ≤ s) : lenAt l s = 0 := by
  unfold lenAt
  rw [List.getD_eq_getElem?_getD, List.getElem?_eq_none h]; rfl
theorem lenAt_low {l : List Nat} (h : Low l) (s : Nat) : lenAt l s ≤ 15 := by
  rcases Nat.lt_or_ge s l.length with h1 | h1
  · exact h _ (List.mem_of_getElem? (lenAt_eq h1))
  · rw [lenAt_ge h1]; omega
theorem lenAt_lt {l : List Nat} {s : Nat} (h : lenAt l s ≠ 0) : s < l.length := by
  rcases Nat.lt_or_ge s l.length with h1 | h1
  · exact h1
  · exact absurd (lenAt_ge h1) h
theorem cnt_take_succ {l : List Nat} {s : Nat} (h : s < l.length) (k : Nat) : cnt (l.take (s + 1)) k = cnt (l.take s) k + (if lenAt l s = k then 1 else 0) := by
  rw [take_more (lenAt_eq h), cnt_snoc]
theorem cnt_take_mono (l : List Nat) {s t : Nat} (h : s ≤ t) (k : Nat) : cnt (l.take s) k ≤ cnt (l.take t) k := by
  unfold cnt
  apply List.Sublist.count_le
  rw [← Nat.min_eq_left h, ← List.take_take]
  exact List.take_sublist _ _
theorem cnt_take_le (l : List Nat) (s k : Nat) : cnt (l.take s) k ≤ cnt l k := (List.take_sublist s l).count_le _
theorem rank_lt {l : List Nat} {s : Nat} (h : s < l.length) : rank l s < cnt l (lenAt l s) := by
  have h1 := cnt_take_succ h (lenAt l s)
  have h2 := cnt_take_le l (s + 1) (lenAt l s)
  rw [if_pos rfl] at h1
  unfold rank
  omega
theorem rank_up {l : List Nat} {s t : Nat} (h : s < t) (ht : t < l.length) (he : lenAt l s = lenAt l t) : rank l s < rank l t := by
  have h1 := cnt_take_succ (show s < l.length by omega) (lenAt l s)
  have h2 := cnt_take_mono l (show s + 1 ≤ t by omega) (lenAt l s)
  rw [if_pos rfl] at h1
  unfold rank
  rw [← he]
  omega
theorem rank_ne {l : List Nat} {s t : Nat} (h : s ≠ t) (hs : s < l.length) (ht : t < l.length) (he : lenAt l s = lenAt l t) : rank l s ≠ rank l t := by
  rcases Nat.lt_or_gt_of_ne h with h1 | h1
  · have := rank_up h1 ht he; omega
  · have := rank_up h1 hs he.symm; omega
theorem code_eq {l : List Nat} {s : Nat} (h : lenAt l s ≠ 0) : codeAt l s = fst (cnt l) (lenAt l s) + rank l s := by unfold codeAt; rw [if_neg h]
theorem code_lt {l : List Nat} {s : Nat} (h : lenAt l s ≠ 0) : codeAt l s < fst (cnt l) (lenAt l s) + cnt l (lenAt l s) := by
  rw [code_eq h]; have := rank_lt (lenAt_lt h); omega
theorem code_pow {l : List Nat} (hl : Low l) (ho : okF (cnt l)) (s : Nat) : codeAt l s < 2 ^ lenAt l s := by
  by_cases h : lenAt l s = 0
  · unfold codeAt; rw [if_pos h]; exact Nat.two_pow_pos _
  · have h1 := code_lt h
    rcases ho (lenAt l s) (by have := lenAt_low hl s; omega) with h2 | h2
    · exact absurd h2 h
    · omega
theorem code_ne_zero {l : List Nat} {s : Nat} (h : lenAt l s = 0) : codeAt l s = 0 := by unfold codeAt; rw [if_pos h]
/-- No code begins with another one. -/
theorem code_apart {l : List Nat} {s t : Nat} (hn : s ≠ t) (hs : lenAt l s ≠ 0) (h : lenAt l s ≤ lenAt l t) : codeAt l t / 2 ^ (lenAt l t - lenAt l s) ≠ codeAt l s := by
  have ht : lenAt l t ≠ 0 := by omega
  have h1 := code_lt hs
  rcases Nat.lt_or_ge (lenAt l s) (lenAt l t) with h2 | h2
  · have h3 := fst_step (cnt l) (show 1 ≤ lenAt l s by omega) h2
    have h4 : fst (cnt l) (lenAt l t) ≤ codeAt l t := by rw [code_eq ht]; omega
    have h5 := (Nat.le_div_iff_mul_le (Nat.two_pow_pos (lenAt l t - lenAt l s))).2 (Nat.le_trans h3 h4)
    omega
  · have he : lenAt l s = lenAt l t := by omega
    rw [he, Nat.sub_self, Nat.pow_zero, Nat.div_one, code_eq hs, code_eq ht, he]
    have := rank_ne hn (lenAt_lt hs) (lenAt_lt ht) he
    omega
theorem pos_lt {l : List Nat} (hl : Low l) {s : Nat} (h : lenAt l s ≠ 0) : posAt l s < st (cnt l) 16 := by
  have h1 := rank_lt (lenAt_lt h)
  have h2 := st_step (cnt l) (show 1 ≤ lenAt l s by omega) (show lenAt l s < 16 by have := lenAt_low hl s; omega)
  unfold posAt
  omega
theorem pos_ne {l : List Nat} {s t : Nat} (h : s ≠ t) (hs : lenAt l s ≠ 0) (ht : lenAt l t ≠ 0) : posAt l s ≠ posAt l t := by
  have h1 := rank_lt (lenAt_lt hs)
  have h2 := rank_lt (lenAt_lt ht)
  unfold posAt
  rcases Nat.lt_trichotomy (lenAt l s) (lenAt l t) with h3 | h3 | h3
  · have := st_step (cnt l) (show 1 ≤ lenAt l s by omega) h3; omega
  · have := rank_ne h (lenAt_lt hs) (lenAt_lt ht) h3
    rw [h3]; omega
  · have := st_step (cnt l) (show 1 ≤ lenAt l t by omega) h3; omega
/-- Each place of a length has its sign. -/
theorem exists_rank (l : List Nat) (v i : Nat) (h : i < cnt l v) : ∃ s, s < l.length ∧ lenAt l s = v ∧ cnt (l.take s) v = i := by
  induction l generalizing i with
  | nil => simp [cnt] at h
  | cons x l ih =>
    rw [cnt_cons] at h
    by_cases hx : x = v
    · rcases i with _ | i
      · exact ⟨0, by simp, by simp [lenAt, hx], by simp [cnt]⟩
      · rw [if_pos hx] at h
        obtain ⟨s, h1, h2, h3⟩ := ih i (by omega)
        refine ⟨s + 1, by simpa using h1, by simpa [lenAt] using h2, ?_⟩
        rw [List.take_succ_cons, cnt_cons, if_pos hx, h3]; omega
    · rw [if_neg hx] at h
      obtain ⟨s, h1, h2, h3⟩ := ih i (by omega)
      refine ⟨s + 1, by simpa using h1, by simpa [lenAt] using h2, ?_⟩
      rw [List.take_succ_cons, cnt_cons, if_neg hx, h3]; omega

/-- Bits as a number, the highest one first. -/
def hiB (m : List UInt8) : Nat := numB m.reverse
theorem hiB_snoc (m : List UInt8) (b : UInt8) : hiB (m ++ [b]) = 2 * hiB m + b.toNat := by
  unfold hiB; rw [List.reverse_append]; simp [numB]; omega
theorem hiB_lt {m : List UInt8} (h : Bin m) : hiB m < 2 ^ m.length := by
  have := numB_lt (bin_rev h)
  rwa [List.length_reverse] at this
theorem hiB_take {m : List UInt8} (h : Bin m) {j k : Nat} (hj : j ≤ k) (hk : k ≤ m.length) : hiB (m.take j) = hiB (m.take k) / 2 ^ (k - j) := by
  unfold hiB
  have e : m.take k = m.take j ++ (m.take k).drop j := by
    conv => lhs; rw [← List.take_append_drop j (m.take k)]
    rw [List.take_take, Nat.min_eq_left hj]
  rw [e, List.reverse_append, numB_append]
  have hl : ((m.take k).drop j).length = k - j := by rw [List.length_drop, List.length_take]; omega
  have h1 := numB_lt (bin_rev ((h.take k).drop j))
  rw [List.length_reverse, hl] at h1
  rw [List.length_reverse, hl, Nat.add_mul_div_left _ _ (Nat.two_pow_pos _), Nat.div_eq_of_lt h1, Nat.zero_add]
theorem hiB_low (x n : Nat) (h : x < 2 ^ n) : hiB (lowB x n).reverse = x := by
  unfold hiB; rw [List.reverse_reverse, numB_lowB, Nat.mod_eq_of_lt h]
/-- The row that the program makes of the bits ahead. -/
theorem turn_hi {m : List UInt8} (h : Bin m) (q : Nat) (hq : q ≤ m.length) {j : Nat} (hj : j ≤ q) : turn 0 (numB m % 2 ^ q) j = hiB (m.take j) := by
  rw [turn_rev]
  unfold hiB
  have e : lowB (numB m % 2 ^ q) j = m.take j := by
    apply List.ext_getElem?
    intro i
    rcases Nat.lt_or_ge i j with h1 | h1
    · rw [lowB_at _ _ _ h1, List.getElem?_take, if_pos h1, List.getElem?_eq_getElem (by omega)]
      congr 1
      apply UInt8.toNat_inj.1
      rw [bitN_toNat]
      have h2 := numB_part h i 1 (by omega)
      rw [List.take_one, List.head?_drop, List.getElem?_eq_getElem (show i < m.length by omega)] at h2
      simp only [Option.toList, numB, Nat.mul_zero, Nat.add_zero, Nat.pow_one] at h2
      rw [h2]
      have h3 : q = i + (1 + (q - i - 1)) := by omega
      rw [h3, Nat.pow_add, Nat.mod_mul_right_div_self, Nat.pow_add, Nat.mod_mul_right_mod]
    · rw [List.getElem?_eq_none (by rw [lowB_length]; exact h1), List.getElem?_eq_none (by rw [List.length_take]; omega)]
  rw [e]

/-- The sign s has a code that the bits m begin with. -/
def hitP (l : List Nat) (m : List UInt8) (s : Nat) : Prop := lenAt l s ≠ 0 ∧ lenAt l s ≤ m.length ∧ hiB (m.take (lenAt l s)) = codeAt l s
instance (l : List Nat) (m : List UInt8) (s : Nat) : Decidable (hitP l m s) := by unfold hitP; infer_instance
/-- The bits begin with no code: from each length on they are beyond its codes. -/
def missTo (l : List Nat) (m : List UInt8) (n : Nat) : Prop := ∀ k, k < n → k = 0 ∨ fst (cnt l) k + cnt l k ≤ hiB (m.take k)
theorem hit_one {l : List Nat} {m : List UInt8} (hb : Bin m) {s t : Nat} (h : hitP l m s) (h' : hitP l m t) : s = t := by
  rcases Nat.lt_or_ge (lenAt l t) (lenAt l s) with h1 | h1
  · by_cases hn : s = t
    · exact hn
    · exfalso
      have := code_apart (Ne.symm hn) h'.1 (Nat.le_of_lt h1)
      rw [← h.2.2, ← h'.2.2, hiB_take hb (Nat.le_of_lt h1) h.2.1] at this
      exact this rfl
  · by_cases hn : s = t
    · exact hn
    · exfalso
      have := code_apart hn h.1 h1
      rw [← h.2.2, ← h'.2.2, hiB_take hb h1 h'.2.1] at this
      exact this rfl
/-- What a hit tells of the shorter lengths. -/
theorem hit_miss {l : List Nat} {m : List UInt8} (hb : Bin m) {s : Nat} (h : hitP l m s) : missTo l m (lenAt l s) := fun k hk => by
  by_cases h0 : k = 0
  · exact .inl h0
  · right
    have h1 := fst_step (cnt l) (show 1 ≤ k by omega) hk
    have h2 : fst (cnt l) (lenAt l s) ≤ hiB (m.take (lenAt l s)) := by rw [h.2.2, code_eq h.1]; omega
    rw [hiB_take hb (Nat.le_of_lt hk) h.2.1]
    exact (Nat.le_div_iff_mul_le (Nat.two_pow_pos _)).2 (Nat.le_trans h1 h2)
theorem miss_no {l : List Nat} {m : List UInt8} {n : Nat} (h : missTo l m n) {s : Nat} (hs : lenAt l s < n) : ¬ hitP l m s := fun hh => by
  rcases h _ hs with h1 | h1
  · exact hh.1 h1
  · have := code_lt hh.1
    rw [hh.2.2] at h1
    omega
theorem miss_low {l : List Nat} {m : List UInt8} (hb : Bin m) {n : Nat} (h : missTo l m n) (hn : n ≤ m.length) : fst (cnt l) n ≤ hiB (m.take n) := by
  rcases n with _ | _ | n
  · simp [fst]
  · simp [fst]
  · rw [fst_succ _ (by omega)]
    rcases h (n + 1) (by omega) with h1 | h1
    · omega
    · rw [hiB_take hb (show n + 1 ≤ n + 2 by omega) (by omega)] at h1
      have := (Nat.le_div_iff_mul_le (Nat.two_pow_pos (n + 2 - (n + 1)))).1 h1
      rw [show n + 2 - (n + 1) = 1 by omega] at this
      show 2 * _ ≤ hiB (List.take (n + 2) m)
      omega
/-- Where the bits are within a length's codes there is a sign. -/
theorem hit_at {l : List Nat} {m : List UInt8} (hb : Bin m) {n : Nat} (h0 : 1 ≤ n) (h : missTo l m n) (hn : n ≤ m.length) (hlt : hiB (m.take n) < fst (cnt l) n + cnt l n) :
    ∃ s, hitP l m s ∧ lenAt l s = n ∧ posAt l s = st (cnt l) n + (hiB (m.take n) - fst (cnt l) n) := by
  have hge := miss_low hb h hn
  obtain ⟨s, hs, h2, h3⟩ := exists_rank l n (hiB (m.take n) - fst (cnt l) n) (by omega)
  have hr : rank l s = hiB (m.take n) - fst (cnt l) n := by unfold rank; rw [h2, h3]
  refine ⟨s, ⟨by omega, by omega, ?_⟩, h2, ?_⟩
  · rw [code_eq (by omega), h2, hr]; omega
  · unfold posAt; rw [h2, hr]
/-- How many bits are looked at. -/
def q15 (m : List UInt8) : Nat := min 15 m.length
/-- The sign that bits begin with, as a search says it. -/
def tkO (l : List Nat) (m : List UInt8) : Option Nat := (List.range l.length).find? fun s => decide (hitP l m s)
/-- The bits are a beginning of a code, by the first row of bits that begins with no code. -/
def tailP (l : List Nat) (m : List UInt8) : Prop := hiB (m.take (q15 m)) * 2 ^ (16 - q15 m) < fst (cnt l) 16
instance (l : List Nat) (m : List UInt8) : Decidable (tailP l m) := by unfold tailP; infer_instance
def tkS (l : List Nat) (m : List UInt8) : Nat := (tkO l m).getD 0
def tkN (l : List Nat) (m : List UInt8) : Nat := match tkO l m with | some s => lenAt l s | none => 0
def tkE (l : List Nat) (m : List UInt8) : Nat := match tkO l m with | some _ => 0 | none => if tailP l m then 10 else 2
theorem tkO_hit {l : List Nat} {m : List UInt8} (hb : Bin m) {s : Nat} (h : hitP l m s) : tkO l m = some s := by
  unfold tkO
  cases hf : (List.range l.length).find? fun s => decide (hitP l m s) with
  | none =>
    have := List.find?_eq_none.1 hf s (List.mem_range.2 (lenAt_lt h.1))
    simp [h] at this
  | some t =>
    have ht : hitP l m t := by have := List.find?_some hf; simpa using this
    rw [hit_one hb ht h]
theorem tkO_miss {l : List Nat} (hl : Low l) {m : List UInt8} (h : missTo l m (q15 m + 1)) : tkO l m = none := by
  unfold tkO
  rw [List.find?_eq_none]
  intro s _
  simp only [decide_eq_true_eq]
  intro hh
  have h1 := lenAt_low hl s
  have h2 := hh.2.1
  exact miss_no h (by unfold q15; omega) hh
theorem tkO_none {l : List Nat} {m : List UInt8} (hb : Bin m) (h : tkO l m = none) : missTo l m (q15 m + 1) := by
  have key : ∀ n, n ≤ q15 m + 1 → missTo l m n := by
    intro n
    induction n with
    | zero => intro _ k hk; omega
    | succ n ih =>
      intro hn k hk
      have hi := ih (by omega)
      rcases Nat.lt_or_ge k n with h1 | h1
      · exact hi k h1
      · obtain rfl : k = n := by omega
        by_cases h0 : k = 0
        · exact .inl h0
        · right
          apply Nat.le_of_not_lt
          intro hlt
          obtain ⟨s, hs, _⟩ := hit_at hb (by omega) hi (by unfold q15 at hn; omega) hlt
          rw [tkO_hit hb hs] at h
          cases h
  exact key _ (Nat.le_refl _)
/-- Bits that begin no code and are the beginning of one. -/
theorem tail_iff {l : List Nat} (hl : Low l) {m : List UInt8} (h : missTo l m (q15 m + 1)) :
    tailP l m ↔ ∃ s, lenAt l s ≠ 0 ∧ m.length < lenAt l s ∧ codeAt l s / 2 ^ (lenAt l s - m.length) = hiB m := by
  unfold tailP
  by_cases h15 : 15 ≤ m.length
  · have hq : q15 m = 15 := by unfold q15; omega
    rw [hq] at h ⊢
    constructor
    · intro h1
      rcases h 15 (by omega) with h2 | h2
      · omega
      · rw [show (16 : Nat) = 15 + 1 from rfl, fst_succ _ (by omega)] at h1
        simp only [Nat.reduceSub, Nat.reduceAdd, Nat.pow_one] at h1
        omega
    · rintro ⟨s, _, h2, _⟩
      have := lenAt_low hl s
      omega
  · have hq : q15 m = m.length := by unfold q15; omega
    rw [hq] at h ⊢
    rw [List.take_length] at *
    generalize hn : m.length = n at *
    constructor
    · intro h1
      -- the least length whose codes go beyond these bits
      have key : ∀ d, n + d ≤ 15 → (∃ s, lenAt l s ≠ 0 ∧ n < lenAt l s ∧ codeAt l s / 2 ^ (lenAt l s - n) = hiB m) ∨ (n + d = 0 ∨ fst (cnt l) (n + d) + cnt l (n + d) ≤ hiB m * 2 ^ d) := by
        intro d
        induction d with
        | zero =>
          intro _
          right
          have := h n (by omega)
          rw [← hn, List.take_length, hn] at this
          simpa using this
        | succ d ih =>
          intro hd
          rcases ih (by omega) with h2 | h2
          · exact .inl h2
          · by_cases h3 : fst (cnt l) (n + (d + 1)) + cnt l (n + (d + 1)) ≤ hiB m * 2 ^ (d + 1)
            · exact .inr (.inr h3)
            · left
              have h4 : fst (cnt l) (n + (d + 1)) ≤ hiB m * 2 ^ (d + 1) := by
                rcases h2 with h2 | h2
                · have : n + (d + 1) = 1 := by omega
                  rw [this]; simp [fst]
                · by_cases h6 : n + d = 0
                  · have : n + (d + 1) = 1 := by omega
                    rw [this]; simp [fst]
                  · rw [show n + (d + 1) = (n + d) + 1 by omega, fst_succ _ (by omega), Nat.pow_succ, ← Nat.mul_assoc]
                    omega
              obtain ⟨s, hs, h5, h6⟩ := exists_rank l (n + (d + 1)) (hiB m * 2 ^ (d + 1) - fst (cnt l) (n + (d + 1))) (by omega)
              refine ⟨s, by omega, by omega, ?_⟩
              rw [code_eq (by omega)]
              unfold rank
              rw [h5, h6, show n + (d + 1) - n = d + 1 by omega, show fst (cnt l) (n + (d + 1)) + (hiB m * 2 ^ (d + 1) - fst (cnt l) (n + (d + 1))) = hiB m * 2 ^ (d + 1) by omega]
              exact Nat.mul_div_cancel _ (Nat.two_pow_pos _)
      rcases key (15 - n) (by omega) with h2 | h2
      · exact h2
      · exfalso
        rw [show n + (15 - n) = 15 by omega] at h2
        rcases h2 with h2 | h2
        · omega
        · rw [show (16 : Nat) = 15 + 1 from rfl, fst_succ _ (by omega), show 15 + 1 - n = (15 - n) + 1 by omega, Nat.pow_succ, ← Nat.mul_assoc] at h1
          omega
    · rintro ⟨s, h0, h2, h3⟩
      have h4 := code_lt h0
      have h5 := lenAt_low hl s
      have h6 := fst_step (cnt l) (show 1 ≤ lenAt l s by omega) (show lenAt l s < 16 by omega)
      have h7 : hiB m * 2 ^ (lenAt l s - n) ≤ codeAt l s := by rw [← h3]; exact Nat.div_mul_le_self _ _
      have h8 : 2 ^ (16 - n) = 2 ^ (lenAt l s - n) * 2 ^ (16 - lenAt l s) := by rw [← Nat.pow_add]; congr 1; omega
      rw [h8, ← Nat.mul_assoc]
      have h9 := Nat.mul_lt_mul_of_lt_of_le (Nat.lt_of_le_of_lt h7 h4) (Nat.le_refl (2 ^ (16 - lenAt l s))) (Nat.two_pow_pos _)
      omega
end Go.Proofs.YtpnnlhegncbfaaaGreatDoor
