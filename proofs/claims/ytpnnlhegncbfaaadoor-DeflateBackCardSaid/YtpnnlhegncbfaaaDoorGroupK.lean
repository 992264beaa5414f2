
/- Contracts of a Reader's Align and Bytes. -/

/- Contracts of guard's functions. -/

/- Contracts of the packer's small methods: number, sign, begin. -/
import Derived.Test.YtpnnlhegncbfaaaDoorGroupJ
import Derived.Defers
import Derived.Recover
import Derived.Test.YtpnnlhegncbfaaaDoorGroupG
import Derived.Test.YtpnnlhegncbfaaaDoorGroupI
import Derived.Test.YtpnnlhegncbfaaaDoorGroupE
import Derived.StillTailTactics
namespace Go.Proofs.YtpnnlhegncbfaaaDoor
set_option maxRecDepth 20000
open Go.RowKit

set_option maxHeartbeats 400000 in
theorem ralign_any {S : List Nat} {A : Option Addr} {n c : Nat} {l : List UInt8} {p : Nat} (g : Nat) (w : World) (hR : RA w S g A n c l p) (hS : g ∈ S) (hn : n ≤ 1000000) :
    Calls Tryd.prog 81 #[.pointer (some ⟨g, 0, none⟩)] w fun e w' => e = .returned (.int .i64 (gapR p : Int)) ∧ RA w' S g A n c l (p + gapR p) ∧ w.grownBy w' (some g) := by
  have hc1 := hR.cell1
  have hf1 := hR.row.thawed 1
  have hp : p ≤ 8000000 := by have := hR.le; omega
  obtain ⟨r, hr⟩ : ∃ r, gapR p = r := ⟨_, rfl⟩
  have hg : (8 - (p : Int) % 8) % 8 = (r : Int) := by rw [← hr]; unfold gapR; omega
  have hr8 : r < 8 := by rw [← hr]; unfold gapR; omega
  have HD := Lib.hid (And.intro (hR.set1 hS (p + r) (by have := hR.le; rw [← hr]; unfold gapR; omega) ((p : Int) + (r : Int)) (by omega)) (grown_setCell w g 1 (.int .i64 ((p : Int) + (r : Int)))))
  rw [hr]
  clear hR hr hS
  go_enter Tryd.func81, Tryd.ntmps81
  go_wp2_with fail
  go_ret
  exact ⟨congrArg (fun z => Ending.returned (Value.int .i64 z)) hg, HD.out.1, HD.out.2⟩


set_option maxHeartbeats 1000000 in
theorem rbytes_any {S : List Nat} {A : Option Addr} {n c : Nat} {l : List UInt8} {p : Nat} (g : Nat) (k : Int) (w : World) (hR : RA w S g A n c l p) (hS : g ∈ S) (hn : n ≤ 1000000) :
    Calls Tryd.prog 84 #[.pointer (some ⟨g, 0, none⟩), .int .i64 k] w fun e w' => ∃ u, e = .returned (.tuple #[u, errV (yE n p k)]) ∧ Own w' w.heap.size u (yB l p k) ∧ RA w' S g A n c l (yP n p k) ∧ w.grownBy w' (some g) := by
  have hl := hR.len
  have hp8 : p ≤ 8000000 := by have := hR.le; omega
  have hc0 := hR.cell0
  have hc1 := hR.cell1
  have HR := Lib.hid hR
  have HS := Lib.hid hS
  have HL := Lib.hid hl
  clear hR hS
  by_cases h1 : k < 0
  · have he : yE n p k = 1 := y_out h1
    have hB : yB l p k = [] := yB_no (by rw [hl, he]; decide)
    have hP : yP n p k = p := yP_no (by rw [he]; decide)
    rw [he, hB, hP]
    have hd : decide (k < 0) = true := decide_eq_true h1
    clear he hB hP hl
    go_enter Tryd.func84, Tryd.ntmps84
    go_wp2_with fail
    go_ret2
    exact ⟨_, rfl, Own.nil _ _, HR.out, World.grownBy.refl _ _⟩
  · have hd : decide (k < 0) = false := decide_eq_false h1
    obtain ⟨q, rfl⟩ : ∃ q : Nat, k = (q : Int) := ⟨k.toNat, by omega⟩
    by_cases h2 : p % 8 ≠ 0
    · have he : yE n p q = 2 := y_form h1 h2
      have hB : yB l p q = [] := yB_no (by rw [hl, he]; decide)
      have hP : yP n p q = p := yP_no (by rw [he]; decide)
      rw [he, hB, hP]
      have hd2 : ((p : Int) % 8 != 0) = true := by rw [bne_iff_ne]; omega
      clear he hB hP hl h1
      go_enter Tryd.func84, Tryd.ntmps84
      go_wp2_with fail
      go_ret2
      exact ⟨_, rfl, Own.nil _ _, HR.out, World.grownBy.refl _ _⟩
    · have hd2 : ((p : Int) % 8 != 0) = false := by rw [bne_eq_false_iff_eq]; omega
      obtain ⟨z, hz⟩ : ∃ z, 8 * n - p = z := ⟨_, rfl⟩
      have HZ := Lib.hid hz
      by_cases h3 : (8 * n - p) / 8 < ((q : Nat) : Int).toNat
      · have he : yE n p q = 10 := y_end h1 h2 h3
        have hB : yB l p q = [] := yB_no (by rw [hl, he]; decide)
        have hP : yP n p q = p := yP_no (by rw [he]; decide)
        rw [he, hB, hP]
        simp only [Int.toNat_natCast] at h3
        have hd3 : decide ((z : Int) / 8 < (q : Int)) = true := decide_eq_true (by omega)
        have hzb : z ≤ 8000000 := by omega
        clear he hB hP hl h1 h2 h3 hz
        go_enter Tryd.func84, Tryd.ntmps84
        go_wp2_with fail
        refine (left_any g w HR.out hn).mono ?_
        rintro e w1 ⟨rfl, m, rfl⟩
        rw [HZ.out]
        have HD := Lib.hid (And.intro (HR.out.drewN m) (grown_drewN w m))
        generalize w.drewN m = w1 at HD ⊢
        go_wp2_with fail
        go_ret2
        exact ⟨_, rfl, Own.nil _ _, HD.out.1, grown_any HD.out.2 _⟩
      · have he : yE n p q = 0 := y_ok h1 h2 h3
        have hB : yB l p q = (l.drop (p / 8)).take q := by unfold yB; rw [hl, he]; rfl
        have hP : yP n p q = p + 8 * q := by unfold yP; rw [he]; rfl
        rw [he, hB, hP]
        simp only [Int.toNat_natCast] at h3
        have hle := HR.out.le
        obtain ⟨f, hf⟩ : ∃ f, p / 8 = f := ⟨_, rfl⟩
        have hfi : (p : Int) / 8 = (f : Int) := by omega
        rw [hf]
        have hd3 : decide ((z : Int) / 8 < (q : Int)) = false := decide_eq_false (by omega)
        have hzb : z ≤ 8000000 := by omega
        have hfq : f + q ≤ n := by omega
        have hpq : p + 8 * q ≤ 8 * n := by omega
        clear he hB hP hl h1 h2 h3 hz hle hf
        rcases HR.out.form with hA | ⟨b, o, hA⟩
        · subst hA
          have hn0 : n = 0 := by
            rcases Nat.eq_zero_or_pos n with h0 | h0
            · exact h0
            · obtain ⟨_, _, he, _⟩ := HR.out.rd.2 h0; cases he
          subst hn0
          obtain ⟨rfl, rfl, rfl⟩ : f = 0 ∧ q = 0 ∧ p = 0 := by omega
          have hcc := HR.out.cap rfl
          subst hcc
          have hl0 : l = [] := List.eq_nil_of_length_eq_zero HL.out
          subst hl0
          go_enter Tryd.func84, Tryd.ntmps84
          go_wp2_with fail
          refine (left_any g w HR.out hn).mono ?_
          rintro e w1 ⟨rfl, m, rfl⟩
          rw [HZ.out]
          have HD := Lib.hid (And.intro (HR.out.drewN m) (grown_drewN w m))
          generalize w.drewN m = w1 at HD ⊢
          have hd0 := HD.out.1.cell0
          have hd1 := HD.out.1.cell1
          have hf1 := HD.out.1.row.thawed 1
          have HD3 := Lib.hid (And.intro (HD.out.1.set1 HS.out 0 (by omega) 0 rfl) (grown_setCell w1 g 1 (.int .i64 0)))
          go_wp2_with fail
          generalize w1.setCell ⟨g, 1, none⟩ (.int .i64 0) = w2 at HD3 ⊢
          refine (clone_any none 0 0 [] w2 ⟨rfl, fun h => by omega⟩ (fun _ => rfl) (by decide)).mono ?_
          rintro e w3 ⟨u, rfl, ho, hg⟩
          have HF := Lib.hid (And.intro ho hg)
          clear ho hg
          go_wp2_with fail
          go_ret2
          have h1 := HD.out.2.size
          have h2 := HD3.out.2.size
          refine ⟨u, rfl, own_mono HF.out.1 (by omega), HD3.out.1.still HF.out.2, ((grown_any HD.out.2 _).trans HD3.out.2).trans (grown_any HF.out.2 _)⟩
        · subst hA
          have hlc := HR.out.lc
          by_cases hcf : c = f
          · obtain rfl : q = 0 := by omega
            rw [List.take_zero]
            go_enter Tryd.func84, Tryd.ntmps84
            go_wp2_with fail
            refine (left_any g w HR.out hn).mono ?_
            rintro e w1 ⟨rfl, m, rfl⟩
            rw [HZ.out]
            have HD := Lib.hid (And.intro (HR.out.drewN m) (grown_drewN w m))
            generalize w.drewN m = w1 at HD ⊢
            have hd0 := HD.out.1.cell0
            have hd1 := HD.out.1.cell1
            have hf1 := HD.out.1.row.thawed 1
            have HD3 := Lib.hid (And.intro (HD.out.1.set1 HS.out (p + 8 * 0) (by omega) (p : Int) (by omega)) (grown_setCell w1 g 1 (.int .i64 (p : Int))))
            go_wp2_with fail
            generalize w1.setCell ⟨g, 1, none⟩ (.int .i64 (p : Int)) = w2 at HD3 ⊢
            refine (clone_any (some ⟨b, o, none⟩) 0 0 [] w2 ⟨rfl, fun h => by omega⟩ (fun h => by cases h) (by omega)).mono ?_
            rintro e w3 ⟨u, rfl, ho, hg⟩
            have HF := Lib.hid (And.intro ho hg)
            clear ho hg
            go_wp2_with fail
            go_ret2
            have h1 := HD.out.2.size
            have h2 := HD3.out.2.size
            refine ⟨u, rfl, own_mono HF.out.1 (by omega), HD3.out.1.still HF.out.2, ((grown_any HD.out.2 _).trans HD3.out.2).trans (grown_any HF.out.2 _)⟩
          · go_enter Tryd.func84, Tryd.ntmps84
            go_wp2_with fail
            refine (left_any g w HR.out hn).mono ?_
            rintro e w1 ⟨rfl, m, rfl⟩
            rw [HZ.out]
            have HD := Lib.hid (And.intro (HR.out.drewN m) (grown_drewN w m))
            generalize w.drewN m = w1 at HD ⊢
            have hd0 := HD.out.1.cell0
            have hd1 := HD.out.1.cell1
            have hf1 := HD.out.1.row.thawed 1
            have HD3 := Lib.hid (And.intro (HD.out.1.set1 HS.out (p + 8 * q) (by omega) ((p : Int) + 8 * (q : Int)) (by omega)) (grown_setCell w1 g 1 (.int .i64 ((p : Int) + 8 * (q : Int)))))
            go_wp2_with fail
            generalize w1.setCell ⟨g, 1, none⟩ (.int .i64 ((p : Int) + 8 * (q : Int))) = w2 at HD3 ⊢
            have hpart : Rd w2 w2.heap.size (some ⟨b, o + f, none⟩) q (us ((l.drop f).take q)) := by
              have := HD3.out.1.rd.rd.part f q hfq
              rwa [show ((us l).drop f).take q = us ((l.drop f).take q) by simp [us]] at this
            refine (clone_any (some ⟨b, o + f, none⟩) q _ _ w2 hpart (fun h => by cases h) (by omega)).mono ?_
            rintro e w3 ⟨u, rfl, ho, hg⟩
            have HF := Lib.hid (And.intro ho hg)
            clear ho hg hpart
            go_wp2_with fail
            go_ret2
            have h1 := HD.out.2.size
            have h2 := HD3.out.2.size
            refine ⟨u, rfl, own_mono HF.out.1 (by omega), HD3.out.1.still HF.out.2, ((grown_any HD.out.2 _).trans HD3.out.2).trans (grown_any HF.out.2 _)⟩
end Go.Proofs.YtpnnlhegncbfaaaDoor
namespace Go.Proofs.YtpnnlhegncbfaaaDoor
set_option maxRecDepth 20000
open Go.RowKit

theorem ta69 (x : Value) (w : World) : (Instr.typeAssert (.iface 71 x) 26 71 true).run Tryd.prog w = .ok (.tuple #[x, .bool true]) w := by kernel_rfl

theorem ta39 (x : Value) (w : World) : (Instr.typeAssert (.iface 50 x) 26 71 true).run Tryd.prog w = .ok (.tuple #[.pointer none, .bool false]) w := by kernel_rfl

theorem tb69 (x : Value) (w : World) : (Instr.typeAssert (.iface 71 x) 26 50 true).run Tryd.prog w = .ok (.tuple #[.int .i64 0, .bool false]) w := by kernel_rfl

theorem tb39 (x : Value) (w : World) : (Instr.typeAssert (.iface 50 x) 26 50 true).run Tryd.prog w = .ok (.tuple #[x, .bool true]) w := by kernel_rfl

theorem tc69 (x : Value) (w : World) : (Instr.typeAssert (.iface 71 x) 20 71 true).run Tryd.prog w = .ok (.tuple #[x, .bool true]) w := by kernel_rfl

theorem tc3 (x : Value) (w : World) : (Instr.typeAssert (.iface 3 x) 20 71 true).run Tryd.prog w = .ok (.tuple #[.pointer none, .bool false]) w := by kernel_rfl

def flt (a : Addr) : List PanicEntry := [{ v := .iface 71 (.pointer (some a)), recovered := false }]

set_option maxHeartbeats 400000 in
theorem throw_any (c : Int) (s : ByteArray) (w : World) :
    Calls Tryd.prog 60 #[.int .i64 c, .string s] w fun e w' => e = .panicked (flt ⟨w.heap.size, 0, none⟩) ∧ w.alloc (.cells #[.int .i64 c, .string s] 76) = w' := by
  go_enter Tryd.func60, Tryd.ntmps60
  go_wp2
  exact ⟨rfl, rfl, rfl⟩

set_option maxHeartbeats 400000 in
theorem code_fault (b o : Nat) (c : Int) (w : World) (hc : w.cell? ⟨b, o, none⟩ = some (.int .i64 c)) : Calls Tryd.prog 23 #[.iface 71 (.pointer (some ⟨b, o, none⟩))] w fun e w' => e = .returned (.int .i64 c) ∧ w = w' := by
  have kta69 := ta69
  go_enter Tryd.func23, Tryd.ntmps23
  go_wp2
  go_ret
  exact ⟨rfl, rfl⟩

set_option maxHeartbeats 400000 in
theorem code_errno (c : Int) (w : World) : Calls Tryd.prog 23 #[.iface 50 (.int .i64 c)] w fun e w' => e = .returned (.int .i64 c) ∧ w = w' := by
  have kta39 := ta39
  have ktb39 := tb39
  go_enter Tryd.func23, Tryd.ntmps23
  go_wp2
  go_ret
  exact ⟨rfl, rfl⟩

set_option maxHeartbeats 400000 in
theorem where_errno (c : Int) (w : World) : Calls Tryd.prog 80 #[.iface 50 (.int .i64 c)] w fun e w' => e = .returned (.string ⟨#[]⟩) ∧ w = w' := by
  have kta39 := ta39
  go_enter Tryd.func80, Tryd.ntmps80
  go_wp2
  go_ret
  exact ⟨rfl, rfl⟩

def fin2 (n : Nat) (w : World) (a : Value) (b : Bool) : World := (w.setCell ⟨n, 0, none⟩ a).setCell ⟨n + 1, 0, none⟩ (.bool b)

def Two (n : Nat) (w : World) : Prop := (∃ v, w.cell? ⟨n, 0, none⟩ = some v) ∧ w.frozen? ⟨n, 0, none⟩ = false ∧ (∃ v, w.cell? ⟨n + 1, 0, none⟩ = some v) ∧ w.frozen? ⟨n + 1, 0, none⟩ = false

set_option maxHeartbeats 400000 in
theorem caught (n : Nat) (x : Option Addr) (older : List PanicEntry) (w : World) (h : Two n w) :
    CallsD Tryd.prog 45 #[.pointer (some ⟨n, 0, none⟩), .pointer (some ⟨n + 1, 0, none⟩)] (.panicking ({ v := .iface 71 (.pointer x), recovered := false } :: older)) w fun e u' w' =>
      e = .returned (.tuple #[]) ∧ u' = .panicking ({ v := .iface 71 (.pointer x), recovered := true } :: older) ∧ fin2 n w (.pointer x) true = w' := by
  obtain ⟨⟨v1, c1⟩, f1, ⟨v2, c2⟩, f2⟩ := h
  have k1 := tc69
  refine callsD_of_wpS Tryd.func45 rfl fun c₀ cs hu => ?_
  apply wpS_seq
  apply wpS_region
  simp [wpOpsS, go_sem, recoverD, hu, Tryd.ntmps45, Exit.thenS]
  clear hu
  refine wpS_of_wp ?_
  change Code.wp _ _ _ ⟨#[.pointer (some ⟨n, 0, none⟩), .pointer (some ⟨n + 1, 0, none⟩), .iface 71 (.pointer x), .iface 71 (.pointer x), undef, undef, undef, undef, undef, undef, undef, undef, undef, undef], []⟩ _
  generalize hQ : (fun (e : Exit) (a' : Act) (w' : World) => bodyPostS _ _ _ _ _ e a' _ w') = Q
  have HQ := Lib.hid hQ
  clear hQ
  go_wp2
  rw [← HQ.out]
  exact ⟨rfl, _, rfl, .tuple #[], by simp [results, Tryd.results45], rfl, rfl, rfl⟩

set_option maxHeartbeats 400000 in
theorem passed (n : Nat) (x : Int) (older : List PanicEntry) (w : World) (h : Two n w) :
    CallsD Tryd.prog 45 #[.pointer (some ⟨n, 0, none⟩), .pointer (some ⟨n + 1, 0, none⟩)] (.panicking ({ v := .iface 3 (.int .i64 x), recovered := false } :: older)) w fun e u' w' =>
      e = .panicked [{ v := .iface 3 (.int .i64 x), recovered := false }] ∧ u' = .panicking ({ v := .iface 3 (.int .i64 x), recovered := true } :: older) ∧ fin2 n w (.pointer none) false = w' := by
  obtain ⟨⟨v1, c1⟩, f1, ⟨v2, c2⟩, f2⟩ := h
  have k1 := tc3
  refine callsD_of_wpS Tryd.func45 rfl fun c₀ cs hu => ?_
  apply wpS_seq
  apply wpS_region
  simp [wpOpsS, go_sem, recoverD, hu, Tryd.ntmps45, Exit.thenS]
  clear hu
  refine wpS_of_wp ?_
  change Code.wp _ _ _ ⟨#[.pointer (some ⟨n, 0, none⟩), .pointer (some ⟨n + 1, 0, none⟩), .iface 3 (.int .i64 x), .iface 3 (.int .i64 x), undef, undef, undef, undef, undef, undef, undef, undef, undef, undef], []⟩ _
  generalize hQ : (fun (e : Exit) (a' : Act) (w' : World) => bodyPostS _ _ _ _ _ e a' _ w') = Q
  have HQ := Lib.hid hQ
  clear hQ
  go_wp2
  rw [← HQ.out]
  exact ⟨rfl, _, rfl, rfl, rfl, rfl⟩

set_option maxHeartbeats 400000 in
theorem idle (n : Nat) (w : World) :
    CallsD Tryd.prog 45 #[.pointer (some ⟨n, 0, none⟩), .pointer (some ⟨n + 1, 0, none⟩)] .returning w fun e u' w' =>
      e = .returned (.tuple #[]) ∧ u' = .returning ∧ w = w' := by
  refine callsD_of_wpS Tryd.func45 rfl fun c₀ cs hu => ?_
  apply wpS_seq
  apply wpS_region
  simp [wpOpsS, go_sem, recoverD, hu, Tryd.ntmps45, Exit.thenS]
  have hm : { c₀ with mode := .returning } = c₀ := by rw [← hu]
  have HM := Lib.hid hm
  clear hu hm
  refine wpS_of_wp ?_
  change Code.wp _ _ _ ⟨#[.pointer (some ⟨n, 0, none⟩), .pointer (some ⟨n + 1, 0, none⟩), .nilIface, .nilIface, undef, undef, undef, undef, undef, undef, undef, undef, undef, undef], []⟩ _
  generalize hQ : (fun (e : Exit) (a' : Act) (w' : World) => bodyPostS _ _ _ _ _ e a' _ w') = Q
  have HQ := Lib.hid hQ
  clear hQ
  go_wp2
  rw [← HQ.out]
  exact ⟨rfl, .returning, by rw [HM.out], .tuple #[], by simp [results, Tryd.results45], rfl, rfl, rfl⟩

theorem catch_cps (k : Nat) (first cap : Array Value) (w : World) (R F : Ending → World → Prop)
    (hcf : ∀ (a : Array Value) (w : World), (callFunc k a).run Tryd.prog w = .ok (.enter k a) w)
    (hcall : Calls Tryd.prog k (first ++ cap) ((w.alloc (.cells #[.pointer none] 71)).alloc (.cells #[.bool false] 4)) F)
    (h : ∀ e w1, F e w1 → Two w.heap.size w1 ∧ (
      (∃ v, e = .returned v ∧ R (.returned (.tuple #[.pointer none, .bool false])) (fin2 w.heap.size w1 (.pointer none) false)) ∨
      (∃ x older, e = .panicked ({ v := .iface 71 (.pointer x), recovered := false } :: older) ∧ older.dropWhile (!·.goexit) = [] ∧ R (.returned (.tuple #[.pointer x, .bool true])) (fin2 w.heap.size w1 (.pointer x) true)) ∨
      (∃ x older, e = .panicked ({ v := .iface 3 (.int .i64 x), recovered := false } :: older) ∧
        R (.panicked ({ v := .iface 3 (.int .i64 x), recovered := false } :: { v := .iface 3 (.int .i64 x), recovered := true } :: older)) (fin2 w.heap.size w1 (.pointer none) false)))) :
    Calls Tryd.prog 35 #[.func (.func k) first cap] w R := by
  have hmf : ∀ (fn : Fn) (first cap : Array Value) (w : World), (Instr.makeFunc fn first cap).run Tryd.prog w = .ok (.func fn first cap) w := fun _ _ _ _ => rfl
  have hnf : ∀ (fn : Fn) (first cap : Array Value) (w : World), (binOp BinOp.eql 1 (.func fn first cap) .nilFunc).run Tryd.prog w = .ok (.bool false) w := fun _ _ _ _ => by kernel_rfl
  have HC := Lib.hid hcall
  have HH := Lib.hid h
  clear hcall h
  go_enter_defers Tryd.func35, Tryd.ntmps35
  go_wp2_with fail
  refine HC.out.mono ?_
  intro e w1 hF
  obtain ⟨⟨⟨v1, c1⟩, f1, ⟨v2, c2⟩, f2⟩, hh⟩ := HH.out e w1 hF
  clear hF
  rcases hh with ⟨v, rfl, hR⟩ | ⟨x, older, rfl, hg, hR⟩ | ⟨x, older, rfl, hR⟩
  · have HR := Lib.hid hR
    clear hR
    go_wp2_with fail
    refine leaves_cons (f := 45) (args := #[.pointer (some ⟨w.heap.size, 0, none⟩), .pointer (some ⟨w.heap.size + 1, 0, none⟩)]) (by simp) (by simp [go_sem]) ?_
    refine (idle w.heap.size _).mono ?_
    rintro e u' w'' ⟨rfl, rfl, rfl⟩
    have HR2 := HR.out
    unfold fin2 at HR2
    simp [Leaves, settle, results, Tryd.results35, go_sem, c1, c2]
    exact HR2
  · refine leaves_cons (f := 45) (args := #[.pointer (some ⟨w.heap.size, 0, none⟩), .pointer (some ⟨w.heap.size + 1, 0, none⟩)]) (by simp) (by simp [go_sem]) ?_
    refine (caught w.heap.size x older w1 ⟨⟨v1, c1⟩, f1, ⟨v2, c2⟩, f2⟩).mono ?_
    rintro e u' w'' ⟨rfl, rfl, rfl⟩
    unfold fin2 at hR ⊢
    simp [Leaves, settle, results, Tryd.results35, go_sem, c1, c2, hg]
    exact hR
  · refine leaves_cons (f := 45) (args := #[.pointer (some ⟨w.heap.size, 0, none⟩), .pointer (some ⟨w.heap.size + 1, 0, none⟩)]) (by simp) (by simp [go_sem]) ?_
    refine (passed w.heap.size x older w1 ⟨⟨v1, c1⟩, f1, ⟨v2, c2⟩, f2⟩).mono ?_
    rintro e u' w'' ⟨rfl, rfl, rfl⟩
    exact hR

set_option maxHeartbeats 400000 in
theorem try_cps (k : Nat) (first cap : Array Value) (w : World) (R F : Ending → World → Prop)
    (hcf : ∀ (a : Array Value) (w : World), (callFunc k a).run Tryd.prog w = .ok (.enter k a) w)
    (hcall : Calls Tryd.prog k (first ++ cap) ((w.alloc (.cells #[.pointer none] 71)).alloc (.cells #[.bool false] 4)) F)
    (h : ∀ e w1, F e w1 → Two w.heap.size w1 ∧ (
      (∃ v, e = .returned v ∧ R (.returned .nilIface) (fin2 w.heap.size w1 (.pointer none) false)) ∨
      (∃ x older, e = .panicked ({ v := .iface 71 (.pointer x), recovered := false } :: older) ∧ older.dropWhile (!·.goexit) = [] ∧ R (.returned (.iface 71 (.pointer x))) (fin2 w.heap.size w1 (.pointer x) true)) ∨
      (∃ x older, e = .panicked ({ v := .iface 3 (.int .i64 x), recovered := false } :: older) ∧
        R (.panicked ({ v := .iface 3 (.int .i64 x), recovered := false } :: { v := .iface 3 (.int .i64 x), recovered := true } :: older)) (fin2 w.heap.size w1 (.pointer none) false)))) :
    Calls Tryd.prog 20 #[.func (.func k) first cap] w R := by
  have HF := Lib.hid hcf
  have HC := Lib.hid hcall
  have HH := Lib.hid h
  clear hcall h hcf
  go_enter Tryd.func20, Tryd.ntmps20
  go_wp2_with fail
  refine catch_cps k first cap w _ F HF.out HC.out ?_
  intro e w1 hF
  obtain ⟨h2, hh⟩ := HH.out e w1 hF
  refine ⟨h2, ?_⟩
  clear h2 hF HH
  rcases hh with ⟨v, rfl, hR⟩ | ⟨x, older, rfl, hg, hR⟩ | ⟨x, older, rfl, hR⟩
  · refine .inl ⟨v, rfl, ?_⟩
    have HR := Lib.hid hR
    clear hR
    go_wp2_with fail
    exact HR.out
  · refine .inr (.inl ⟨x, older, rfl, hg, ?_⟩)
    have HR := Lib.hid hR
    clear hR hg
    go_wp2_with fail
    exact HR.out
  · refine .inr (.inr ⟨x, older, rfl, ?_⟩)
    exact ⟨rfl, hR⟩

set_option maxHeartbeats 400000 in
theorem pass_nil (w : World) : Calls Tryd.prog 55 #[.nilIface] w fun e w' => e = .returned (.tuple #[]) ∧ w = w' := by
  go_enter Tryd.func55, Tryd.ntmps55
  go_wp2_with fail
  go_end0
  exact ⟨rfl, rfl⟩

set_option maxHeartbeats 400000 in
theorem pass_errno (c : Int) (w : World) : Calls Tryd.prog 55 #[.iface 50 (.int .i64 c)] w fun e w' => e = .panicked (flt ⟨w.heap.size, 0, none⟩) ∧ w.alloc (.cells #[.int .i64 c, .string ⟨#[]⟩] 76) = w' := by
  go_enter Tryd.func55, Tryd.ntmps55
  go_wp2_with fail
  refine (code_errno c w).mono ?_
  rintro e w' ⟨rfl, rfl⟩
  go_wp2_with fail
  refine (where_errno c w).mono ?_
  rintro e w' ⟨rfl, rfl⟩
  go_wp2_with fail
  refine (throw_any c _ w).mono ?_
  rintro e w' ⟨rfl, rfl⟩
  exact ⟨rfl, rfl, rfl⟩
end Go.Proofs.YtpnnlhegncbfaaaDoor
namespace Go.Proofs.YtpnnlhegncbfaaaDoor
set_option maxRecDepth 20000
open Go.RowKit

/-- A packer, as it is handed on. -/
abbrev pkV (gw : Nat) (pa pb : Option Addr) : Value := .agg #[.pointer (some ⟨gw, 0, none⟩), .pointer pa, .pointer pb]
theorem WM.grow {w w' : World} {B g : Nat} {v : Value} {m : List UInt8} (h : WM w B g v m) (hg : w.grownBy w' none) : WM w' B g v m := h.kept hg (by simp) (ne_none v)
set_option maxHeartbeats 1000000 in
set_option maxRecDepth 10000 in
theorem number_any2 (gw B : Nat) (pa pb : Option Addr) (x k : Nat) (m : List UInt8) (v : Value) (w : World) (hW : WM w B gw v m) (hB : B ≤ w.heap.size) (hk : k ≤ 32) (hx : x < 2 ^ k) (hL : m.length ≤ 7000000) :
    Calls Tryd.prog 71 #[pkV gw pa pb, .int .i64 (x : Int), .int .i64 (k : Int)] w fun e w' => e = .returned (.tuple #[]) ∧ ∃ v', WM w' B gw v' (m ++ lowB x k) ∧ St w gw v w' v' := by
  have hx32 : x < 4294967296 := Nat.lt_of_lt_of_le hx (by have := Nat.pow_le_pow_right (show 0 < 2 by decide) hk; simpa using this)
  have hxm : (x : Int) % 4294967296 = (x : Int) := by omega
  have HOK : RowKit.Hid (okP x (k : Int) = true) := Lib.hid (decide_eq_true ⟨by omega, by omega, by rw [Int.toNat_natCast]; exact hx⟩)
  have hg1 := World.grownBy_alloc w (.cells #[.pointer (some ⟨gw, 0, none⟩), .pointer pa, .pointer pb] 84) none
  have HP := Lib.hid (put_any B gw x (k : Int) m v (w.alloc (.cells #[.pointer (some ⟨gw, 0, none⟩), .pointer pa, .pointer pb] 84)) (hW.grow hg1) (Nat.le_trans hB hg1.size) hL)
  rw [putE_ok HOK.out, putB_low HOK.out, Int.toNat_natCast] at HP
  have HS := Lib.hid (St.none (g := gw) (v := v) hg1)
  clear hW hB hL hg1
  go_enter Tryd.func71, Tryd.ntmps71
  go_wp2_with fail
  refine HP.out.mono ?_
  rintro e w2 ⟨rfl, v', hW2, hS2⟩
  have HF := Lib.hid (And.intro hW2 (HS.out.trans hS2))
  rw [show errV 0 = .nilIface from rfl]
  clear hW2 hS2 HP
  go_wp2_with fail
  refine (pass_nil w2).mono ?_
  rintro e wz ⟨rfl, rfl⟩
  go_wp2_with fail
  go_end0
  exact ⟨rfl, v', HF.out.1, HF.out.2⟩
set_option maxHeartbeats 1000000 in
set_option maxRecDepth 10000 in
theorem sign_any2 (K g B gw : Nat) (pa pb : Option Addr) (ls : List Nat) (s : Nat) (m : List UInt8) (v : Value) (w : World) (hc : HC w K g ls) (hK : K ≤ w.heap.size) (hs : lenAt ls s ≠ 0) (hW : WM w B gw v m) (hB : B ≤ w.heap.size) (hL : m.length ≤ 7000000) :
    Calls Tryd.prog 53 #[pkV gw pa pb, .pointer (some ⟨g, 0, none⟩), .int .i64 (s : Int)] w fun e w' => e = .returned (.tuple #[]) ∧ ∃ v', WM w' B gw v' (m ++ bitsO ls (s : Int)) ∧ St w gw v w' v' := by
  have hg1 := World.grownBy_alloc w (.cells #[.pointer (some ⟨gw, 0, none⟩), .pointer pa, .pointer pb] 84) none
  have HP := Lib.hid (hput_any K g B gw ls (s : Int) m v (w.alloc (.cells #[.pointer (some ⟨gw, 0, none⟩), .pointer pa, .pointer pb] 84)) (hc.grown hK hg1 (fun k hk => by cases hk)) (hW.grow hg1) (Nat.le_trans hB hg1.size) hL)
  rw [show ofE ls (s : Int) = 0 by unfold ofE; rw [if_neg (by rw [lenI_nat]; exact hs)]] at HP
  have HS := Lib.hid (St.none (g := gw) (v := v) hg1)
  clear hc hK hs hW hB hL hg1
  go_enter Tryd.func53, Tryd.ntmps53
  go_wp2_with fail
  refine HP.out.mono ?_
  rintro e w2 ⟨rfl, v', hW2, hS2⟩
  have HF := Lib.hid (And.intro hW2 (HS.out.trans hS2))
  rw [show errV 0 = .nilIface from rfl]
  clear hW2 hS2 HP
  go_wp2_with fail
  refine (pass_nil w2).mono ?_
  rintro e wz ⟨rfl, rfl⟩
  go_wp2_with fail
  go_end0
  exact ⟨rfl, v', HF.out.1, HF.out.2⟩
set_option maxHeartbeats 1000000 in
set_option maxRecDepth 10000 in
theorem begin_any2 (gw B : Nat) (pa pb : Option Addr) (last : Bool) (k : Nat) (m : List UInt8) (v : Value) (w : World) (hW : WM w B gw v m) (hB : B ≤ w.heap.size) (hk : k < 4) (hL : m.length ≤ 6999990) :
    Calls Tryd.prog 51 #[pkV gw pa pb, .bool last, .int .i64 (k : Int)] w fun e w' => e = .returned (.tuple #[]) ∧ ∃ v', WM w' B gw v' (m ++ (lowB (if last then 1 else 0) 1 ++ lowB k 2)) ∧ St w gw v w' v' := by
  have hg1 := World.grownBy_alloc w (.cells #[.pointer (some ⟨gw, 0, none⟩), .pointer pa, .pointer pb] 84) none
  have HW1 := Lib.hid (hW.grow hg1)
  have HS1 := Lib.hid (St.none (g := gw) (v := v) hg1)
  have HB1 := Lib.hid (Nat.le_trans hB hg1.size)
  have HR := Lib.hid (show Row (w.alloc (.cells #[.pointer (some ⟨gw, 0, none⟩), .pointer pa, .pointer pb] 84)) w.heap.size #[.pointer (some ⟨gw, 0, none⟩), .pointer pa, .pointer pb] 84 from heap_alloc_new w _)
  have HN : RowKit.Hid (gw ≠ w.heap.size ∧ ∀ b, v.ownBlock = some b → b ≠ w.heap.size) := Lib.hid ⟨by have := hW.wr.row.lt; omega, fun b hb => by have := (World.ownsRow.lt hW.wr.own b hb).2; omega⟩
  have HL := Lib.hid hL
  clear hW hB hg1 hL
  have HNUM := Lib.hid (number_any2 gw B pa pb (if last then 1 else 0) 1 m v _ HW1.out HB1.out (by omega) (by split <;> decide) (by have := HL.out; omega))
  go_enter Tryd.func51, Tryd.ntmps51
  cases last <;>
  · go_wp2_with fail
    refine HNUM.out.mono ?_
    rintro e w2 ⟨rfl, v2, hW2, hS2⟩
    have hr2 : Row w2 w.heap.size #[.pointer (some ⟨gw, 0, none⟩), .pointer pa, .pointer pb] 84 := by
      unfold Row
      rw [hS2.block w.heap.size (by simp) (fun e => HN.out.1 e.symm) (fun e => HN.out.2 _ e rfl)]
      exact HR.out
    have c0 : w2.cell? ⟨w.heap.size, 0, none⟩ = some (.pointer (some ⟨gw, 0, none⟩)) := hr2.cell 0
    have c1 : w2.cell? ⟨w.heap.size, 1, none⟩ = some (.pointer pa) := hr2.cell 1
    have c2 : w2.cell? ⟨w.heap.size, 2, none⟩ = some (.pointer pb) := hr2.cell 2
    have HW2 := Lib.hid hW2
    have HS2 := Lib.hid (HS1.out.trans hS2)
    have HB2 := Lib.hid (Nat.le_trans HB1.out hS2.size)
    clear hW2 hS2 hr2 HNUM
    go_wp2_with fail
    refine (number_any2 gw B pa pb k 2 _ v2 w2 HW2.out HB2.out (by omega) (by omega) (by have := HL.out; simp [lowB_length]; omega)).mono ?_
    rintro e w3 ⟨rfl, v3, hW3, hS3⟩
    have HW3 := Lib.hid hW3
    have HS3 := Lib.hid (HS2.out.trans hS3)
    clear hW3 hS3 c0 c1 c2
    go_wp2_with fail
    go_end0
    exact ⟨rfl, v3, by rw [← List.append_assoc]; exact HW3.out, HS3.out⟩
end Go.Proofs.YtpnnlhegncbfaaaDoor
