/- Contracts of the law's fault and of guard.Must; the player's end. -/
import Derived.Test.YtmjpdncgapbfpaaWords
namespace Go.Proofs.Ytmjpdncgapbfpaa
open Go.RowKit

def fltA : Option (Int × ByteArray) → Value
  | none => .agg #[.int .i64 0, .string ⟨#[]⟩, .bool false]
  | some x => .agg #[.int .i64 x.1, .string x.2, .bool true]

set_option maxHeartbeats 400000 in
theorem fault_nil (w : World) : Calls Try.prog 12 #[.nilIface] w fun e w' => e = .returned (fltA none) ∧ Below w.heap.size w w' := by
  go_enter Try.func12, Try.ntmps12
  go_wp2_with fail
  refine bodyPost_ret (v := fltA none) (by simp [results, Try.results12, go_sem, fltA]) rfl ⟨rfl, ?_⟩
  exact (Below.refl _ _).alloc (Nat.le_refl _) _

set_option maxHeartbeats 400000 in
theorem fault_some (b : Nat) (c : Int) (s : ByteArray) (w : World) (hb : b < w.heap.size) (h1 : w.cell? ⟨b, 0, none⟩ = some (.int .i64 c)) (h2 : w.cell? ⟨b, 1, none⟩ = some (.string s)) :
    Calls Try.prog 12 #[.iface 42 (.pointer (some ⟨b, 0, none⟩))] w fun e w' => e = .returned (fltA (some (c, s))) ∧ Below w.heap.size w w' := by
  go_enter Try.func12, Try.ntmps12
  go_wp2_with fail
  refine (code_fault b 0 c _ ?_).mono ?_
  · rw [World.cell?_alloc_old _ _ _ (by show b ≠ _; omega)]; exact h1
  rintro e w' ⟨rfl, rfl⟩
  go_wp2_with fail
  refine (where_fault b 0 s _ ?_).mono ?_
  · rw [World.cell?_alloc_old _ _ _ (by show b ≠ _; omega)]; exact h2
  rintro e w' ⟨rfl, rfl⟩
  go_wp2_with fail
  refine bodyPost_ret (v := fltA (some (c, s))) (by simp [results, Try.results12, go_sem, fltA]) rfl ⟨rfl, ?_⟩
  exact (Below.refl _ _).alloc (Nat.le_refl _) _

set_option maxHeartbeats 400000 in
theorem must_yes (c : Int) (s : ByteArray) (w : World) : Calls Try.prog 31 #[.bool true, .int .i64 c, .string s] w fun e w' => e = .returned (.tuple #[]) ∧ w = w' := by
  go_enter Try.func31, Try.ntmps31
  go_wp2_with fail
  go_end0
  exact ⟨rfl, rfl⟩

set_option maxHeartbeats 400000 in
theorem must_no (c : Int) (s : ByteArray) (w : World) : Calls Try.prog 31 #[.bool false, .int .i64 c, .string s] w fun e w' => e = .panicked (flt ⟨w.heap.size, 0, none⟩) ∧ w.alloc (.cells #[.int .i64 c, .string s] 45) = w' := by
  go_enter Try.func31, Try.ntmps31
  go_wp2_with fail
  refine (throw_any c s w).mono ?_
  rintro e w' ⟨rfl, rfl⟩
  exact ⟨rfl, rfl, rfl⟩

set_option maxHeartbeats 400000 in
theorem end_no (p : Nat) (i : Nat) (w : World) : Calls Try.prog 32 #[.pointer (some ⟨p, 0, none⟩), .int .i64 (i : Int), .bool false] w fun e w' => e = .returned (.tuple #[]) ∧ w = w' := by
  go_enter Try.func32, Try.ntmps32
  go_wp2_with fail
  exact bodyPost_ret (v := .tuple #[]) (by simp [results, Try.results32]) rfl ⟨rfl, rfl⟩

theorem PS.setA {w : World} {B p : Nat} {A : Option Addr} {n c : Nat} {ops : List Sc} {i : Nat} {nv : Value} {N : List Nt} (h : PS w B p A n c ops i nv N) (j : Nat) : PS (w.setCell ⟨p, 1, none⟩ (.int .i64 (j : Int))) B p A n c ops j nv N := by
  refine ⟨?_, World.cell?_setCell_same _ _ _ h.cA, ?_, by rw [World.frozen?_setCell]; exact h.f1, by rw [World.frozen?_setCell]; exact h.f2, ?_, ?_, h.lt, by simpa [World.setCell] using h.hB, h.ne⟩
  · rw [World.cell?_setCell_other _ _ _ _ (by intro e; cases e)]; exact h.cO
  · rw [World.cell?_setCell_other _ _ _ _ (by intro e; cases e)]; exact h.cN
  · exact ownsRow_setCell_below h.own h.lt _
  · refine ⟨h.rd.1, fun hn => ?_⟩
    obtain ⟨g, o, rfl, hg, hc⟩ := h.rd.2 hn
    have hne := h.ne g o rfl
    refine ⟨g, o, rfl, hg, fun i x hx => ?_⟩
    obtain ⟨h1, h2, h3⟩ := hc i x hx
    refine ⟨?_, ?_, ?_⟩
    · rw [World.cell?_setCell_other _ _ _ _ (by intro e; have := congrArg Addr.block e; simp at this; omega)]; exact h1
    · rw [World.cell?_setCell_other _ _ _ _ (by intro e; have := congrArg Addr.block e; simp at this; omega)]; exact h2
    · rw [World.cell?_setCell_other _ _ _ _ (by intro e; have := congrArg Addr.block e; simp at this; omega)]; exact h3
theorem PS.drewN {w : World} {B p : Nat} {A : Option Addr} {n c : Nat} {ops : List Sc} {i : Nat} {nv : Value} {N : List Nt} (h : PS w B p A n c ops i nv N) (k : Nat) : PS (w.drewN k) B p A n c ops i nv N :=
  ⟨h.cO, h.cA, h.cN, h.f1, h.f2, h.own, h.rd, h.lt, h.hB, h.ne⟩
theorem Fr.drewN {p : Nat} {nv : Value} {a w : World} (h : Fr p nv a w) (k : Nat) : Fr p nv a (w.drewN k) := ⟨h.os, h.tape, h.output, h.size, h.block⟩
theorem PS.drew {w : World} {B p : Nat} {A : Option Addr} {n c : Nat} {ops : List Sc} {i : Nat} {nv : Value} {N : List Nt} (h : PS w B p A n c ops i nv N) : PS w.drew B p A n c ops i nv N :=
  ⟨h.cO, h.cA, h.cN, h.f1, h.f2, h.own, h.rd, h.lt, h.hB, h.ne⟩
theorem Fr.drew {p : Nat} {nv : Value} {a w : World} (h : Fr p nv a w) : Fr p nv a w.drew := ⟨h.os, h.tape, h.output, h.size, h.block⟩

theorem end_step {w wr : World} {B p : Nat} {A : Option Addr} {n c : Nat} {ops : List Sc} {j : Nat} {nv : Value} {N : List Nt} (h : PS wr B p A n c ops j nv N) (hf : Fr p nv w wr) (k : Nat) :
    PS ((wr.drewN k).setCell ⟨p, 1, none⟩ (.int .i64 ((j : Int) + 1))) B p A n c ops (j + 1) nv N ∧ Fr p nv w ((wr.drewN k).setCell ⟨p, 1, none⟩ (.int .i64 ((j : Int) + 1))) :=
  ⟨(h.drewN k).setA (j + 1), (hf.drewN k).setP 1 _⟩
theorem end_less {wr : World} {B p : Nat} {A : Option Addr} {n c : Nat} {ops : List Sc} {j : Nat} {nv : Value} {N : List Nt} (h : PS wr B p A n c ops j nv N) (k : Nat) (hj : j < n) :
    (match ((wr.drewN k).setCell ⟨p, 1, none⟩ (.int .i64 ((j : Int) + 1))).cell? ⟨p, 1, none⟩ with | some (.int _ q) => n - q.toNat | _ => 0) < (match wr.cell? ⟨p, 1, none⟩ with | some (.int _ q) => n - q.toNat | _ => 0) := by
  have h1 := ((h.drewN k).setA (j + 1)).cA
  have e : ((j + 1 : Nat) : Int) = (j : Int) + 1 := by omega
  rw [e] at h1
  rw [h1, h.cA]
  simp
  omega

def Ended (B p : Nat) (A : Option Addr) (n c : Nat) (ops : List Sc) (nv : Value) (N : List Nt) (i0 : Nat) (w : World) (e : Ending) (w' : World) : Prop :=
  ∃ j : Nat, e = .returned (.tuple #[]) ∧ j ≤ n ∧ ops.drop j = skl 1 (ops.drop i0) ∧ PS w' B p A n c ops j nv N ∧ Fr p nv w w'

set_option maxHeartbeats 1000000 in
theorem end_yes (B p : Nat) (A : Option Addr) (n c : Nat) (ops : List Sc) (i : Nat) (nv : Value) (N : List Nt) (i0 : Nat) (w : World) (hp : PS w B p A n c ops i nv N) (hn : n ≤ 60) (hi : i0 ≤ n) :
    Calls Try.prog 32 #[.pointer (some ⟨p, 0, none⟩), .int .i64 (i0 : Int), .bool true] w (Ended B p A n c ops nv N i0 w) := by
  have HL := Lib.hid hp.rd.1
  have HP := Lib.hid hp
  have cA := hp.cA
  have f1 := hp.f1
  clear hp
  go_enter Try.func32, Try.ntmps32
  go_wp2_with fail
  have hP1 := HP.out.setA i0
  have hF1 : Fr p nv w (w.setCell ⟨p, 1, none⟩ (.int .i64 (i0 : Int))) := (Fr.refl p nv w).setP 1 _
  clear cA f1
  generalize w.setCell ⟨p, 1, none⟩ (.int .i64 (i0 : Int)) = w1 at hP1 hF1 ⊢
  go_loopw [6] (fun op wr => ∃ (j q : Nat), j ≤ n ∧ q ≤ 1 + j ∧ op = .int .i64 q ∧ skl q (ops.drop j) = skl 1 (ops.drop i0) ∧ PS wr B p A n c ops j nv N ∧ Fr p nv w wr) (fun _ wr => match wr.cell? ⟨p, 1, none⟩ with | some (.int _ q) => n - q.toNat | _ => 0)
  case atStart => exact ⟨i0, 1, hi, by omega, rfl, rfl, hP1, hF1⟩
  case round =>
    clear hP1 hF1 HP
    obtain ⟨j, q, hj, hq, rfl, hs, hP, hF⟩ := hrel
    have HS := Lib.hid hs
    have HF := Lib.hid hF
    have cO := hP.cO
    have cA := hP.cA
    have f1 := hP.f1
    have HP := Lib.hid hP
    clear hs hF hP
    by_cases hlt : j < n ∧ 0 < q
    · obtain ⟨h1, h2⟩ := hlt
      obtain ⟨g, o, rfl, hg, hc⟩ := HP.out.rd.2 (by omega)
      obtain ⟨x, hx⟩ : ∃ x, ops[j]? = some x := ⟨_, List.getElem?_eq_getElem (by rw [HL.out]; exact h1)⟩
      have c0 := (hc j x hx).1
      have HX := Lib.hid hx
      clear hc hx
      have d1 : decide ((j : Int) < (n : Int)) = true := by simp; omega
      have d2 : decide (0 < (q : Int)) = true := by simp; omega
      obtain ⟨t, rfl⟩ : ∃ t, q = t + 1 := ⟨q - 1, by omega⟩
      have hsk : skl (t + 1) (ops.drop j) = if x.k = 4 ∨ x.k = 5 then skl (t + 2) (ops.drop (j + 1)) else if x.k = 6 then skl t (ops.drop (j + 1)) else skl (t + 1) (ops.drop (j + 1)) := by
        rw [drop_cons HX.out, skl]
      have HSK := Lib.hid hsk
      clear hsk
      by_cases h45 : x.k = 4 ∨ x.k = 5
      · have b6 : ((x.k : Int) == 6) = false := by simp; omega
        have hn1 : skl (t + 2) (ops.drop (j + 1)) = skl 1 (ops.drop i0) := by rw [← HS.out, HSK.out, if_pos h45]
        have HN := Lib.hid hn1
        clear hn1
        by_cases h4 : x.k = 4
        · have b4 : ((x.k : Int) == 4) = true := by simp; omega
          clear h45 h4
          go_wp2_with fail
          go_quiet (fail)
          go_wp2_with fail
          go_quiet (fail)
          go_wp2_with fail
          go_roundw
          case rel => exact ⟨j + 1, t + 2, by omega, by omega, by go_num, HN.out, end_step HP.out HF.out _⟩
          case measure => exact end_less HP.out _ h1
        · have b4 : ((x.k : Int) == 4) = false := by simp; omega
          have b5 : ((x.k : Int) == 5) = true := by simp; omega
          clear h45 h4
          go_wp2_with fail
          go_quiet (fail)
          go_wp2_with fail
          go_quiet (fail)
          go_wp2_with fail
          go_roundw
          case rel => exact ⟨j + 1, t + 2, by omega, by omega, by go_num, HN.out, end_step HP.out HF.out _⟩
          case measure => exact end_less HP.out _ h1
      · have b4 : ((x.k : Int) == 4) = false := by simp; omega
        have b5 : ((x.k : Int) == 5) = false := by simp; omega
        by_cases h6 : x.k = 6
        · have b6 : ((x.k : Int) == 6) = true := by simp; omega
          have hn1 : skl t (ops.drop (j + 1)) = skl 1 (ops.drop i0) := by rw [← HS.out, HSK.out, if_neg h45, if_pos h6]
          have HN := Lib.hid hn1
          clear hn1 h45 h6
          go_wp2_with fail
          go_quiet (fail)
          go_wp2_with fail
          go_quiet (fail)
          go_wp2_with fail
          go_roundw
          case rel => exact ⟨j + 1, t, by omega, by omega, by go_num, HN.out, end_step HP.out HF.out _⟩
          case measure => exact end_less HP.out _ h1
        · have b6 : ((x.k : Int) == 6) = false := by simp; omega
          have hn1 : skl (t + 1) (ops.drop (j + 1)) = skl 1 (ops.drop i0) := by rw [← HS.out, HSK.out, if_neg h45, if_neg h6]
          have HN := Lib.hid hn1
          clear hn1 h45 h6
          go_wp2_with fail
          go_quiet (fail)
          go_wp2_with fail
          go_quiet (fail)
          go_wp2_with fail
          go_roundw
          case rel => exact ⟨j + 1, t + 1, by omega, by omega, by go_num, HN.out, end_step HP.out HF.out _⟩
          case measure => exact end_less HP.out _ h1
    · have hend : ops.drop j = skl 1 (ops.drop i0) := by
        rw [← HS.out]
        by_cases hq0 : q = 0
        · subst hq0; rw [skl]
        · rw [List.drop_of_length_le (by rw [HL.out]; omega), skl_nil]
      have HE := Lib.hid hend
      clear hend
      by_cases h1 : j < n
      · have hq0 : q = 0 := by omega
        subst hq0
        clear hlt
        have d1 : decide ((j : Int) < (n : Int)) = true := by simp; omega
        go_wp2_with fail
        go_quiet (fail)
        go_wp2_with fail
        go_end0
        exact ⟨j, rfl, hj, HE.out, HP.out.drewN _, HF.out.drewN _⟩
      · clear hlt
        have d1 : decide ((j : Int) < (n : Int)) = false := by simp; omega
        go_wp2_with fail
        go_quiet (fail)
        go_wp2_with fail
        go_end0
        exact ⟨j, rfl, hj, HE.out, HP.out.drewN _, HF.out.drewN _⟩
end Go.Proofs.Ytmjpdncgapbfpaa
