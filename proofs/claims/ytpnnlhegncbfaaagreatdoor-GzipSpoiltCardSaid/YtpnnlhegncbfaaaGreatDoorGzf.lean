/- Contracts of a file's take and number, where bytes don't lack. -/
import Derived.Test.YtpnnlhegncbfaaaGreatDoorGzp
import Derived.Test.YtpnnlhegncbfaaaGreatDoorInfK
import Derived.Test.YtpnnlhegncbfaaaGreatDoorInfR
namespace Go.Proofs.YtpnnlhegncbfaaaGreatDoor
set_option maxRecDepth 20000
open Go.RowKit

def fcells (A : Option Addr) (n c at_ : Nat) (v : Value) (lim st : Nat) : Array Value := #[.slice A n c, .int .i64 (at_ : Int), v, .int .i64 (lim : Int), .int .i64 (st : Int)]
/-- Block g holds a file that is read: the bytes b, at the place at_, what was put out, the limit, the steps. -/
structure FS (w : World) (g : Nat) (A : Option Addr) (n c : Nat) (b : List UInt8) (lim : Nat) (v : Value) (at_ st : Nat) (text : List UInt8) : Prop where
  row : Row w g (fcells A n c at_ v lim st) 43
  rd : Rd w g A n (us b)
  cap : A = none → c = 0
  lc : n ≤ c
  form : A = none ∨ ∃ q o, A = some ⟨q, o, none⟩
  le : at_ ≤ n
  own : Own w (g + 1) v text
  tab : Tab w
  tabs : Tabs w
  pos : 2 < g
  lm : lim ≤ 1048576
  tl : text.length ≤ lim
  nn : n ≤ 1000000
  sl : st ≤ 8 * at_
section
variable {w w' : World} {g : Nat} {A : Option Addr} {n c : Nat} {b : List UInt8} {lim : Nat} {v : Value} {at_ st : Nat} {text : List UInt8}
theorem FS.len (h : FS w g A n c b lim v at_ st text) : b.length = n := by have := h.rd.1; rwa [us_length] at this
theorem FS.lt (h : FS w g A n c b lim v at_ st text) : g < w.heap.size := h.row.lt
/-- What changes none of the file's blocks. -/
theorem FS.still (h : FS w g A n c b lim v at_ st text) (hg : w.grownBy w' none) : FS w' g A n c b lim v at_ st text := by
  have hb : Below (g + 1) w w' := ⟨hg.os, hg.tape, hg.output, hg.size, fun k hk => hg.block k (by have := h.lt; omega) (by simp)⟩
  exact ⟨h.row.grown hg (by simp), h.rd.below (hb.mono (by omega)), h.cap, h.lc, h.form, h.le, World.ownsRow.kept h.own hg (own_none v), h.tab.block (hb.block 2 (by have := h.pos; omega)), h.tabs.below hb (by omega), h.pos, h.lm, h.tl, h.nn, h.sl⟩
theorem FS.setAt (h : FS w g A n c b lim v at_ st text) (p : Nat) (z : Int) (hz : z = (p : Int)) (h1 : at_ ≤ p) (h2 : p ≤ n) : FS (w.setCell ⟨g, 1, none⟩ (.int .i64 z)) g A n c b lim v p st text := by
  subst hz
  have hg := grown_setCell w g 1 (.int .i64 (p : Int))
  have hb : Below g w (w.setCell ⟨g, 1, none⟩ (.int .i64 (p : Int))) := (Below.refl g w).grown hg (Nat.le_of_lt h.lt) (fun k hk => by injection hk with hk; omega)
  have hown : (w.setCell ⟨g, 1, none⟩ (.int .i64 (p : Int))).grownBy (w.setCell ⟨g, 1, none⟩ (.int .i64 (p : Int))) none := ⟨rfl, rfl, rfl, Nat.le_refl _, fun _ _ _ => rfl⟩
  refine ⟨h.row.set 1 _, h.rd.below hb, h.cap, h.lc, h.form, h2, World.ownsRow.kept h.own hg (.inr ?_), h.tab.block (hb.block 2 h.pos), h.tabs.below hb (by have := h.pos; omega), h.pos, h.lm, h.tl, h.nn, by have := h.sl; omega⟩
  intro e
  have := (World.ownsRow.lt h.own g e).1
  omega
end
set_option maxHeartbeats 400000 in
theorem gzmust_ok (k : Int) (s : ByteArray) (w : World) : Calls Tryz.prog 52 #[.bool true, .int .i64 k, .string s] w fun e w' => e = .returned (.tuple #[]) ∧ w' = w := by
  go_enter Tryz.func52, Tryz.ntmps52
  go_wp2_with fail
  go_end0
  exact ⟨rfl, rfl⟩
/-- A fault with this code is thrown; nothing else has changed. -/
def Thrown (w : World) (k : Nat) (e : Ending) (w' : World) : Prop := ∃ q, e = .panicked (flt ⟨q, 0, none⟩) ∧ w'.cell? ⟨q, 0, none⟩ = some (.int .i64 (k : Int)) ∧ w.grownBy w' none ∧ w.heap.size ≤ q ∧ q < w'.heap.size
set_option maxHeartbeats 400000 in
theorem gzmust_no (k : Nat) (s : ByteArray) (w : World) : Calls Tryz.prog 52 #[.bool false, .int .i64 (k : Int), .string s] w (Thrown w k) := by
  go_enter Tryz.func52, Tryz.ntmps52
  go_wp2_with fail
  refine (throw_any (k : Int) s w).mono ?_
  rintro e w1 ⟨rfl, rfl⟩
  refine ⟨rfl, w.heap.size, rfl, ?_, World.grownBy_alloc w _ none, Nat.le_refl _, by simp⟩
  exact (Row.new w #[.int .i64 (k : Int), .string s] 80).cell 0
set_option maxHeartbeats 4000000 in
theorem take_ok (g : Nat) (A : Option Addr) (n c : Nat) (b : List UInt8) (lim : Nat) (v : Value) (at_ st : Nat) (text : List UInt8) (m : Nat) (w : World) (h : FS w g A n c b lim v at_ st text) (hm : at_ + m ≤ n) :
    Calls Tryz.prog 65 #[.pointer (some ⟨g, 0, none⟩), .int .i64 (m : Int)] w fun e w' => ∃ A' c', e = .returned (.slice A' m c') ∧ Rd w' g A' m (us ((b.drop at_).take m)) ∧ m ≤ c' ∧ FS w' g A n c b lim v (at_ + m) st text ∧ w.grownBy w' (some g) := by
  have HF := Lib.hid h
  have r0 : w.cell? ⟨g, 0, none⟩ = some (.slice A n c) := h.row.cell 0
  have r1 : w.cell? ⟨g, 1, none⟩ = some (.int .i64 (at_ : Int)) := h.row.cell 1
  have hnn := h.nn
  have hle := h.le
  have hlc := h.lc
  obtain ⟨d, hd⟩ : ∃ d, n - at_ = d := ⟨_, rfl⟩
  have ed : (n : Int) - (at_ : Int) = (d : Int) := by omega
  have ew : IntKind.i64.wrap (d : Int) = (d : Int) := wrap64_in _ (by omega) (by omega)
  have ew2 : IntKind.i64.wrap ((at_ : Int) + (m : Int)) = (at_ : Int) + (m : Int) := wrap64_in _ (by omega) (by omega)
  have d0 : m ≤ d := by omega
  have d1 : decide (m ≤ d) = true := decide_eq_true (by omega)
  have HM := Lib.hid (fun w => gzmust_ok 10 ⟨#[]⟩ w)
  clear h hd
  go_enter Tryz.func65, Tryz.ntmps65
  go_wp2_with fail
  go_quiet (first | (go_at_call 52; exact Calls.quiet_of_same (HM.out _)))
  have HG1 : RowKit.Hid (w.grownBy (w.drewN nq) none) := Lib.hid (grown_drewN w nq)
  have HF1 := Lib.hid (HF.out.still HG1.out)
  clear HF r0 r1 HM
  generalize w.drewN nq = w1 at HG1 HF1 ⊢
  have r0 : w1.cell? ⟨g, 0, none⟩ = some (.slice A n c) := HF1.out.row.cell 0
  have r1 : w1.cell? ⟨g, 1, none⟩ = some (.int .i64 (at_ : Int)) := HF1.out.row.cell 1
  obtain ⟨p, hp⟩ : ∃ p, at_ + m = p := ⟨_, rfl⟩
  have ep : (at_ : Int) + (m : Int) = (p : Int) := by omega
  rw [ep] at ew2
  have s1 : (at_ : Int) ≤ (p : Int) := by omega
  have s2 : p ≤ c := by omega
  have s3 : at_ ≤ p := by omega
  have epm : p - at_ = m := by omega
  have hpn : p ≤ n := by omega
  have HP := Lib.hid (And.intro hp epm)
  by_cases hc : at_ = c
  · have hm0 : m = 0 := by omega
    subst hc
    subst hm0
    have hp2 : p = at_ := by omega
    subst hp2
    clear ed d0 d1 ep s1 s2 s3 epm hp hm
    go_wp2_with fail
    go_quiet (fail)
    have HG2 : RowKit.Hid (w.grownBy (w1.drewN nq) none) := Lib.hid (HG1.out.trans (grown_drewN w1 nq))
    have HF2 := Lib.hid (HF1.out.still (grown_drewN w1 nq))
    clear HG1 HF1 r0 r1
    generalize w1.drewN nq = w2 at HG2 HF2 ⊢
    have r1 : w2.cell? ⟨g, 1, none⟩ = some (.int .i64 (p : Int)) := HF2.out.row.cell 1
    have f1 := HF2.out.row.thawed 1
    go_wp2_with fail
    have HF3 := Lib.hid (HF2.out.setAt p (p : Int) rfl (by omega) (by omega))
    have HR3 := Lib.hid (HF3.out.rd)
    go_ret
    refine ⟨_, _, rfl, ?_, ?_, by rw [HP.out.1]; exact HF3.out, (grown_any HG2.out _).trans (grown_setCell w2 g 1 _)⟩
    · exact ⟨by simp [us], fun h0 => absurd h0 (by decide)⟩
    · exact Nat.le_refl _
  · obtain ⟨q, o, hAq⟩ : ∃ q o, A = some ⟨q, o, none⟩ := by
      rcases HF1.out.form with e | e
      · have := HF1.out.cap e; omega
      · exact e
    subst hAq
    clear ed d0 d1 epm hp hm
    go_wp2_with fail
    go_quiet (fail)
    have HG2 : RowKit.Hid (w.grownBy (w1.drewN nq) none) := Lib.hid (HG1.out.trans (grown_drewN w1 nq))
    have HF2 := Lib.hid (HF1.out.still (grown_drewN w1 nq))
    clear HG1 HF1 r0 r1
    generalize w1.drewN nq = w2 at HG2 HF2 ⊢
    have r1 : w2.cell? ⟨g, 1, none⟩ = some (.int .i64 (at_ : Int)) := HF2.out.row.cell 1
    have f1 := HF2.out.row.thawed 1
    have e3 : (at_ : Int) + (m : Int) = (p : Int) := by have := HP.out.1; omega
    go_wp2_with fail
    have HF3 := Lib.hid (HF2.out.setAt p (p : Int) rfl (by omega) (by omega))
    have HR3 := Lib.hid (HF3.out.rd)
    go_ret
    refine ⟨_, _, (by rw [HP.out.2]; rfl), ?_, ?_, by rw [HP.out.1]; exact HF3.out, (grown_any HG2.out _).trans (grown_setCell w2 g 1 _)⟩
    · have := HR3.out.part at_ m (by have := HP.out.1; omega)
      rwa [show ((us b).drop at_).take m = us ((b.drop at_).take m) by simp [us, List.map_drop, List.map_take]] at this
    · have := HP.out.1; omega
end Go.Proofs.YtpnnlhegncbfaaaGreatDoor
