/- Contract of the law BitsBack. -/
import Derived.Test.YtafipnhpoopljaaActs
import Derived.Test.YtafipnhpoopljaaRmt
namespace Go.Proofs.Ytafipnhpoopljaa
open Go.RowKit

/-- The acts whose numbers are written. -/
def doneL (l : List Raw) : List Raw := l.filter fun a => okP a.x a.n
/-- Their bits. -/
def bitsD (D : List Raw) : List UInt8 := D.flatMap fun a => lowB a.x a.n.toNat
theorem bitsD_append (a b : List Raw) : bitsD (a ++ b) = bitsD a ++ bitsD b := by simp [bitsD]
theorem bitsD_one (a : Raw) : bitsD [a] = lowB a.x a.n.toNat := by simp [bitsD]
theorem bin_bitsD (D : List Raw) : Bin (bitsD D) := fun b hb => by
  obtain ⟨x, _, h⟩ := List.mem_flatMap.1 hb
  exact bin_lowB _ _ b h
theorem done_ok {l : List Raw} {k : Nat} {a : Raw} (h : l[k]? = some a) (ho : okP a.x a.n = true) : doneL (l.take (k + 1)) = doneL (l.take k) ++ [a] := by
  rw [take_more h]; unfold doneL; rw [List.filter_append]; simp [ho]
theorem done_no {l : List Raw} {k : Nat} {a : Raw} (h : l[k]? = some a) (ho : okP a.x a.n = false) : doneL (l.take (k + 1)) = doneL (l.take k) := by
  rw [take_more h]; unfold doneL; rw [List.filter_append]; simp [ho]
theorem doneL_length (l : List Raw) : (doneL l).length ≤ l.length := List.length_filter_le _ _
theorem doneL_all (l : List Raw) : ∀ a ∈ doneL l, okP a.x a.n = true := fun _ ha => (List.mem_filter.1 ha).2
theorem bitsD_length : ∀ (D : List Raw), (∀ a ∈ D, okP a.x a.n = true) → (bitsD D).length ≤ 32 * D.length
  | [], _ => by simp [bitsD]
  | a :: D, h => by
    have h1 := bitsD_length D (fun b hb => h b (List.mem_cons_of_mem _ hb))
    have h2 := of_decide_eq_true (h a (by simp))
    rw [show a :: D = [a] ++ D from rfl, bitsD_append, bitsD_one, List.length_append, lowB_length]
    simp; omega
/-- What is read at a written number's place. -/
theorem read_eq {D : List Raw} {j : Nat} {a : Raw} (h : D[j]? = some a) (ho : okP a.x a.n = true) : fld (numB (bitsD D)) (bitsD (D.take j)).length a.n.toNat = a.x ∧ (bitsD (D.take (j + 1))).length = (bitsD (D.take j)).length + a.n.toNat ∧ (bitsD (D.take (j + 1))).length ≤ (bitsD D).length := by
  have ho := of_decide_eq_true ho
  have e : bitsD D = bitsD (D.take j) ++ (lowB a.x a.n.toNat ++ bitsD (D.drop (j + 1))) := by
    have : D = D.take (j + 1) ++ D.drop (j + 1) := by rw [List.take_append_drop]
    conv => lhs; rw [this]
    rw [bitsD_append, take_more h, bitsD_append, bitsD_one, List.append_assoc]
  have hl : (bitsD (D.take (j + 1))).length = (bitsD (D.take j)).length + a.n.toNat := by rw [take_more h, bitsD_append, bitsD_one, List.length_append, lowB_length]
  refine ⟨?_, hl, ?_⟩
  · have := numB_part (bin_bitsD D) (bitsD (D.take j)).length a.n.toNat (by rw [e]; simp [lowB_length])
    unfold fld
    rw [← this, e, List.drop_left, List.take_left' (lowB_length _ _), numB_lowB, Nat.mod_eq_of_lt ho.2.2]
  · rw [hl, e]; simp [lowB_length]

theorem RdA.cells {w : World} {B : Nat} {A : Option Addr} {n : Nat} {l : List Raw} (h : RdA w B A n l) {k : Nat} (hk : k < n) :
    ∃ g o a, A = some ⟨g, o, none⟩ ∧ g < B ∧ l[k]? = some a ∧ w.cell? ⟨g, o + k * 4, none⟩ = some (.int .i64 a.k) ∧ w.cell? ⟨g, o + k * 4 + 1, none⟩ = some (.int .i64 a.n) ∧ w.cell? ⟨g, o + k * 4 + 2, none⟩ = some (.int .u32 (a.x : Int)) ∧ w.cell? ⟨g, o + k * 4 + 3, none⟩ = some (.slice a.A a.m a.c) := by
  obtain ⟨g, o, rfl, hg, hc⟩ := h.2 (by omega)
  have hl : k < l.length := by rw [h.1]; exact hk
  have hc := hc k _ (List.getElem?_eq_getElem hl)
  refine ⟨g, o, l[k], rfl, hg, List.getElem?_eq_getElem hl, hc 0 _ rfl, ?_, ?_, ?_⟩
  · rw [Nat.add_assoc]; exact hc 1 _ rfl
  · rw [Nat.add_assoc]; exact hc 2 _ rfl
  · rw [Nat.add_assoc]; exact hc 3 _ rfl
theorem RdA.below {w w' : World} {B : Nat} {A : Option Addr} {n : Nat} {l : List Raw} (h : RdA w B A n l) (hb : Below B w w') : RdA w' B A n l := by
  refine ⟨h.1, fun hn => ?_⟩
  obtain ⟨g, o, rfl, hg, hc⟩ := h.2 hn
  exact ⟨g, o, rfl, hg, fun i x hi j u hu => (hb.cell (p := ⟨g, o + (i * 4 + j), none⟩) hg).trans (hc i x hi j u hu)⟩

/-- What the first loop keeps. -/
structure L1 (W : World) (g : Nat) (D : List Raw) (u : Value) (wr : World) : Prop where
  wm : ∃ v, WM wr g g v (bitsD D)
  own : OwnR wr g u D
  below : Below W.heap.size W wr
  base : W.heap.size ≤ g
  size : g ≤ wr.heap.size

theorem OwnR.rd' {w : World} {B : Nat} {A : Option Addr} {n c : Nat} {l : List Raw} (h : OwnR w B (.slice A n c) l) : n = l.length ∧ RdA w w.heap.size A n l := by
  obtain ⟨A', c', hv, hr⟩ := h.rd
  injection hv with h1 h2 h3
  subst h1 h2
  exact ⟨rfl, hr⟩

/-- What the second loop keeps. -/
structure L2 (W : World) (g g2 : Nat) (A : Option Addr) (T c : Nat) (D : List Raw) (u : Value) (p : Nat) (wr : World) : Prop where
  wm : ∃ v, WM wr g g v (bitsD D)
  own : OwnR wr g u D
  ra : RA wr [g2] g2 A T c (textB (bitsD D)) p
  below : Below W.heap.size W wr
  base : W.heap.size ≤ g2
theorem L2.still {W : World} {g g2 : Nat} {A : Option Addr} {T c : Nat} {D : List Raw} {u : Value} {p : Nat} {wr w' : World} (h : L2 W g g2 A T c D u p wr) (hg : wr.grownBy w' none) : L2 W g g2 A T c D u p w' := by
  obtain ⟨v, hw⟩ := h.wm
  exact ⟨⟨v, hw.kept hg (by simp) (ne_none v)⟩, World.ownsRow.kept h.own hg (ne_none u), h.ra.still hg, h.below.trans ((below_make hg).mono h.below.size), h.base⟩
theorem L2.read {W : World} {g g2 : Nat} {A : Option Addr} {T c : Nat} {D : List Raw} {u : Value} {p q : Nat} {wr w' : World} (h : L2 W g g2 A T c D u p wr) (hr : RA w' [g2] g2 A T c (textB (bitsD D)) q) (hg : wr.grownBy w' (some g2)) : L2 W g g2 A T c D u q w' := by
  obtain ⟨v, hw⟩ := h.wm
  have hne : some g ≠ some g2 := fun e => by
    injection e with e
    have h1 := hw.wr.row
    have h2 := h.ra.row
    subst e
    unfold Row at h1 h2
    rw [h1] at h2
    injection h2 with h2
    injection h2 with _ h3
    exact absurd h3 (by decide)
  exact ⟨⟨v, hw.kept hg hne (.inr (own_notRow hw.wr.own h.ra.row (by decide)))⟩, World.ownsRow.kept h.own hg (.inr (own_notRow h.own h.ra.row (by decide))), hr, h.below.grown hg h.below.size (fun k e => by injection e with e; subst e; exact h.base), h.base⟩
theorem below_own {W w w' : World} (h : Below W.heap.size W w) (hg : w.grownBy w' none) : Below W.heap.size W w' := h.trans ((below_make hg).mono h.size)

set_option maxHeartbeats 1000000 in
theorem back_any (A : Option Addr) (n c : Nat) (l : List Raw) (w : World) (hr : RdA w w.heap.size A n l) :
    Calls Try.prog 5 #[.slice A n c] w fun e w' => e = .returned (.bool true) ∧ Below w.heap.size w w' := by
  have HL := Lib.hid hr.1
  have HR := Lib.hid hr
  clear hr
  go_enter Try.func5, Try.ntmps5
  go_wp2_with fail
  refine (alive_true w).mono ?_
  rintro e w1 ⟨rfl, hb1⟩
  have HB1 := Lib.hid hb1
  clear hb1
  by_cases hn : 100 < n
  · have hd : decide (100 < (n : Int)) = true := decide_eq_true (by omega)
    go_wp2_with fail
    go_ret
    exact ⟨rfl, HB1.out⟩
  · have hd : decide (100 < (n : Int)) = false := decide_eq_false (by omega)
    go_wp2_with fail
    refine (newWriter_any w1).mono ?_
    rintro e w2 ⟨rfl, hW2, hg2⟩
    have hsz2 := hg2.size
    have hI : L1 w w1.heap.size [] (.slice (some ⟨w2.heap.size, 0, none⟩) 0 0) (w2.alloc (.cells #[] 32)) :=
      ⟨⟨_, hW2.still ((Below.refl _ _).alloc (Nat.le_refl _) _)⟩, OwnR.lit0 w2 _ hsz2, (HB1.out.trans ((below_make hg2).mono HB1.out.size)).alloc (Nat.le_trans HB1.out.size hsz2) _, HB1.out.size, by simp; omega⟩
    have HI := Lib.hid hI
    clear hI hW2 hg2 hsz2 HB1
    go_wp2_with fail
    generalize w1.heap.size = g at HI ⊢
    generalize (Value.slice (some ⟨w2.heap.size, 0, none⟩) 0 0) = u0 at HI ⊢
    generalize w2.alloc (.cells #[] 32) = w3 at HI ⊢
    go_loopw [4, 23] (fun u ix wr => ∃ k : Nat, k ≤ n ∧ ix = .int .i64 k ∧ L1 w g (doneL (l.take k)) u wr) (fun _ ix _ => n - (intOf ix).toNat)
    case atStart => exact ⟨0, by omega, rfl, HI.out⟩
    case round =>
      clear HI
      obtain ⟨k, hk, rfl, hI⟩ := hrel
      have HI := Lib.hid hI
      clear hI
      by_cases hlt : k < n
      · obtain ⟨ob, off, a, rfl, hob, ha, c0, c1, c2, c3⟩ := (HR.out.below HI.out.below).cells hlt
        have HA := Lib.hid ha
        clear ha
        have d0 : decide ((k : Int) < (n : Int)) = true := decide_eq_true (by omega)
        go_wp2_with fail
        clear c0 c1 c2 c3 hob
        obtain ⟨v, hWM⟩ := HI.out.wm
        have hDL : (doneL (l.take k)).length ≤ 100 := by
          have h1 := doneL_length (l.take k)
          rw [List.length_take] at h1
          omega
        have hmL : (bitsD (doneL (l.take k))).length ≤ 7000000 := by
          have := bitsD_length _ (doneL_all (l.take k))
          omega
        have hrow := Row.new wr #[.int .i64 a.k, .int .i64 a.n, .int .u32 (a.x : Int), .slice a.A a.m a.c] 32
        have hBl : Below wr.heap.size wr (wr.alloc (.cells #[.int .i64 a.k, .int .i64 a.n, .int .u32 (a.x : Int), .slice a.A a.m a.c] 32)) := (Below.refl _ _).alloc (Nat.le_refl _) _
        have hWM := hWM.still hBl
        have hOR : OwnR (wr.alloc (.cells #[.int .i64 a.k, .int .i64 a.n, .int .u32 (a.x : Int), .slice a.A a.m a.c] 32)) g u4 (doneL (l.take k)) := World.ownsRow.alloc HI.out.own _
        have hBe : Below w.heap.size w (wr.alloc (.cells #[.int .i64 a.k, .int .i64 a.n, .int .u32 (a.x : Int), .slice a.A a.m a.c] 32)) := HI.out.below.alloc HI.out.below.size _
        have hsz : g ≤ (wr.alloc (.cells #[.int .i64 a.k, .int .i64 a.n, .int .u32 (a.x : Int), .slice a.A a.m a.c] 32)).heap.size := by have := HI.out.size; simp; omega
        have HB := Lib.hid HI.out.base
        generalize wr.alloc (.cells #[.int .i64 a.k, .int .i64 a.n, .int .u32 (a.x : Int), .slice a.A a.m a.c] 32) = w4 at hrow hWM hOR hBe hsz ⊢
        generalize wr.heap.size = H at hrow ⊢
        clear hBl HI
        refine (put_any g g a.x a.n _ v w4 hWM hsz hmL).mono ?_
        rintro e w5 ⟨rfl, v5, hW5, hS5⟩
        have hrow5 := hS5.row hWM.wr hrow (by decide) (by decide)
        have hOR5 := hOR.st hS5 hWM.wr
        have hBe5 := hBe.trans ((hS5.below hWM.wr hsz (Nat.le_refl _)).mono HB.out)
        have hsz5 := Nat.le_trans hsz hS5.size
        clear hrow hWM hOR hBe hsz hS5
        cases hok : okP a.x a.n with
        | true =>
          rw [putE_ok hok, show errV 0 = .nilIface from rfl]
          rw [putB_low hok, ← bitsD_one, ← bitsD_append, ← done_ok HA.out hok] at hW5
          have c0 := hrow5.cell 0
          have c1 := hrow5.cell 1
          have c2 := hrow5.cell 2
          have c3 := hrow5.cell 3
          change w5.cell? ⟨H, 0, none⟩ = some (.int .i64 a.k) at c0
          change w5.cell? ⟨H, 1, none⟩ = some (.int .i64 a.n) at c1
          change w5.cell? ⟨H, 2, none⟩ = some (.int .u32 (a.x : Int)) at c2
          change w5.cell? ⟨H, 3, none⟩ = some (.slice a.A a.m a.c) at c3
          have HW5 := Lib.hid hW5
          have HO5 := Lib.hid hOR5
          have HB5 := Lib.hid hBe5
          have HS5 := Lib.hid hsz5
          have HOK := Lib.hid hok
          clear hW5 hOR5 hBe5 hsz5 hrow5 hok
          go_wp2_with (at_builtin; refine pushR w5 w5.heap.size rfl rfl (.tmp 34) (.tmp 36) rfl g u4 (doneL (l.take k)) a _ rfl rfl HO5.out rfl HS5.out (by omega) ?_)
          intro v' w' ho hg
          have hI : L1 w g (doneL (l.take (k + 1))) v' w' := ⟨⟨v5, HW5.out.pushed HO5.out hg⟩, by rw [done_ok HA.out HOK.out]; exact ho, (HB5.out.grown hg HB5.out.size fun q hq => Nat.le_trans HB.out (World.ownsRow.lt HO5.out q hq).1), HB.out, Nat.le_trans HS5.out hg.size⟩
          have HI := Lib.hid hI
          clear ho hg hI HW5 HO5 HB5 HS5 c0 c1 c2 c3
          go_wp2_with fail
          go_roundw
          case rel => exact ⟨k + 1, by omega, by go_num, HI.out⟩
          case measure => simp [intOf]; omega
        | false =>
          rw [putE_no hok, show errV 1 = .iface 62 (.int .i64 1) from rfl]
          rw [putB_no hok, List.append_nil, ← done_no HA.out hok] at hW5
          rw [← done_no HA.out hok] at hOR5
          have hI : L1 w g (doneL (l.take (k + 1))) u4 w5 := ⟨⟨v5, hW5⟩, hOR5, hBe5, HB.out, hsz5⟩
          have HI := Lib.hid hI
          clear hI hW5 hOR5 hBe5 hsz5 hrow5 hok
          go_wp2_with fail
          go_roundw
          case rel => exact ⟨k + 1, by omega, by go_num, HI.out⟩
          case measure => simp [intOf]; omega
      · have hkn : k = n := by omega
        subst hkn
        rw [List.take_of_length_le (by rw [HL.out]; omega)] at HI
        have d0 : decide ((k : Int) < (k : Int)) = false := decide_eq_false (by omega)
        obtain ⟨D, HD⟩ : ∃ D, RowKit.Hid (doneL l = D) := ⟨_, Lib.hid rfl⟩
        rw [HD.out] at HI
        have hDL : D.length ≤ 100 := by have h1 := doneL_length l; rw [HL.out, HD.out] at h1; omega
        have HDA := Lib.hid (show ∀ a ∈ D, okP a.x a.n = true by rw [← HD.out]; exact doneL_all l)
        have hmL : (bitsD D).length ≤ 3200 := by have := bitsD_length D HDA.out; omega
        obtain ⟨v, hWM⟩ := HI.out.wm
        have HWM := Lib.hid hWM
        clear hWM
        go_wp2_with fail
        refine (wtext_any g g _ v wr HWM.out (by omega)).mono ?_
        rintro e w4 ⟨u, rfl, hou, hgu⟩
        obtain ⟨T, hT⟩ : ∃ T, (textB (bitsD D)).length = T := ⟨_, rfl⟩
        have hTv : T = ((bitsD D).length + 7) / 8 := by rw [← hT, textB_length]
        obtain ⟨A4, c4, hu4⟩ := hou.slice
        rw [hT] at hu4
        subst hu4
        have HT := Lib.hid hT
        have HTV := Lib.hid hTv
        have HF := Lib.hid (And.intro (show L1 w g D u4 w4 from ⟨⟨v, HWM.out.kept hgu (by simp) (ne_none v)⟩, World.ownsRow.kept HI.out.own hgu (ne_none u4), below_own HI.out.below hgu, HI.out.base, Nat.le_trans HI.out.size hgu.size⟩) (And.intro hou.rd.2 (noCap hou)))
        clear hou hgu HWM HI hT hTv
        go_wp2_with fail
        refine (newReader_any A4 T c4 _ w4 HF.out.2.1 HF.out.2.2 (by have := HTV.out; omega)).mono ?_
        rintro e w5 ⟨g2, A5, c5, rfl, hg2, hrow, hcap, hrd, _, hform, hlc, hg5⟩
        have h2 : L2 w g g2 A5 T c5 D u4 0 w5 := by
          obtain ⟨v', hw'⟩ := HF.out.1.wm
          exact ⟨⟨v', hw'.kept hg5 (by simp) (ne_none v')⟩, World.ownsRow.kept HF.out.1.own hg5 (ne_none u4), ⟨hrow, hrd.rdS (Nat.le_of_lt hrow.lt) (fun k hk => by have := List.mem_singleton.1 hk; omega), hcap, by omega, hform, hlc⟩, below_own HF.out.1.below hg5, Nat.le_trans HF.out.1.base (Nat.le_trans HF.out.1.size hg2)⟩
        obtain ⟨Ad, cd, hu, _⟩ := h2.own.rd
        subst hu
        have H2 := Lib.hid h2
        clear h2 hg2 hrow hcap hrd hform hlc hg5 HF
        go_wp2_with fail
        go_loopw [44] (fun ix wq => ∃ j : Nat, j ≤ D.length ∧ ix = .int .i64 j ∧ L2 w g g2 A5 T c5 D (.slice Ad D.length cd) (bitsD (D.take j)).length wq) (fun ix _ => D.length - (intOf ix).toNat)
        case atStart => exact ⟨0, by omega, rfl, H2.out⟩
        case round =>
          clear H2
          obtain ⟨j, hj, rfl, h2⟩ := hrel
          have H2 := Lib.hid h2
          clear h2
          by_cases hjt : j < D.length
          · have d1 : decide ((j : Int) < (D.length : Int)) = true := decide_eq_true (by omega)
            obtain ⟨ob, off, a, rfl, hob, ha, c0, c1, c2, c3⟩ := H2.out.own.rd'.2.cells hjt
            have hok := HDA.out a (List.mem_of_getElem? ha)
            obtain ⟨e1, e2, e3⟩ := read_eq ha hok
            have hokd := of_decide_eq_true hok
            have f1 : bE T (bitsD (D.take j)).length a.n = 0 := b_ok (by omega) (by have := HTV.out; omega)
            have f2 : bX (numL (textB (bitsD D))) T (bitsD (D.take j)).length a.n = a.x := by unfold bX; rw [f1, numL_textB (bin_bitsD D)]; exact e1
            have f3 : bP T (bitsD (D.take j)).length a.n = (bitsD (D.take (j + 1))).length := by unfold bP; rw [f1, e2]; rfl
            have HE := Lib.hid (And.intro f1 (And.intro f2 f3))
            clear ha hok e1 e2 e3 hokd f1 f2 f3
            go_wp2_with fail
            clear c0 c1 c2 c3 hob
            have hrow := Row.new wr #[.int .i64 a.k, .int .i64 a.n, .int .u32 (a.x : Int), .slice a.A a.m a.c] 32
            have h3 := H2.out.still (World.grownBy_alloc wr (.cells #[.int .i64 a.k, .int .i64 a.n, .int .u32 (a.x : Int), .slice a.A a.m a.c] 32) none)
            have hne : some wr.heap.size ≠ some g2 := fun e => by injection e with e; have := H2.out.ra.row.lt; omega
            generalize wr.alloc (.cells #[.int .i64 a.k, .int .i64 a.n, .int .u32 (a.x : Int), .slice a.A a.m a.c] 32) = w6 at hrow h3 ⊢
            generalize wr.heap.size = H at hrow hne ⊢
            clear H2
            refine (rbits_any g2 a.n w6 h3.ra (by simp) (by have := HTV.out; omega)).mono ?_
            rintro e w7 ⟨rfl, hra, hg7⟩
            rw [HE.out.1, HE.out.2.1, show errV 0 = .nilIface from rfl]
            rw [HE.out.2.2] at hra
            have hrow7 := hrow.grown hg7 hne
            have h7 := h3.read hra hg7
            have c2 := hrow7.cell 2
            change w7.cell? ⟨H, 2, none⟩ = some (.int .u32 (a.x : Int)) at c2
            have H7 := Lib.hid h7
            clear h7 hrow7 hra hg7 h3 hrow hne
            go_wp2_with fail
            go_roundw
            case rel => exact ⟨j + 1, by omega, by go_num, H7.out⟩
            case measure => simp [intOf]; omega
          · have hjn : j = D.length := by omega
            subst hjn
            have d1 : decide ((D.length : Int) < (D.length : Int)) = false := decide_eq_false (by omega)
            rw [List.take_length] at H2
            obtain ⟨L, hL⟩ : ∃ L, (bitsD D).length = L := ⟨_, rfl⟩
            rw [hL] at H2 hmL HTV
            have hTL := HTV.out
            have f1 : pN T L 8 = gapR L := by unfold pN gapR; rw [if_neg (by omega), hTL]; show min 8 _ = _; omega
            have f2 : fld (numL (textB (bitsD D))) L (gapR L) = 0 := by
              unfold fld
              rw [numL_textB (bin_bitsD D), Nat.div_eq_of_lt (by rw [← hL]; exact numB_lt (bin_bitsD D))]
              simp
            obtain ⟨r, hr⟩ : ∃ r, gapR L = r := ⟨_, rfl⟩
            have hr8 : r < 8 := by rw [← hr]; unfold gapR; omega
            have d2 : decide ((r : Int) < 8) = true := decide_eq_true (by omega)
            rw [hr] at f1 f2
            have HE := Lib.hid (And.intro f1 (And.intro f2 (And.intro hr hL)))
            have hTb : T ≤ 1000000 := by omega
            clear f1 f2 hr hL hTL
            go_wp2_with fail
            refine (rpeek_any g2 8 wr H2.out.ra hTb).mono ?_
            rintro e w6 ⟨rfl, m6, rfl⟩
            rw [HE.out.1, HE.out.2.1]
            have H6 := Lib.hid (H2.out.still (grown_drewN wr m6))
            generalize wr.drewN m6 = w6 at H6 ⊢
            clear H2
            go_wp2_with fail
            refine (at_any g2 w6 H6.out.ra).mono ?_
            rintro e w7 ⟨rfl, rfl⟩
            go_wp2_with fail
            obtain ⟨v7, hv7⟩ := H6.out.wm
            refine (wlen_any g g _ v7 w7 hv7 (by rw [HE.out.2.2.2]; omega)).mono ?_
            rintro e w8 ⟨rfl, rfl⟩
            rw [HE.out.2.2.2]
            have H8 := Lib.hid (H6.out.still (grown_drewN w7 1))
            rw [← World.drew_is_drewN] at H8
            generalize w7.drew = w8 at H8 ⊢
            clear H6 hv7
            go_wp2_with fail
            refine (ralign_any g2 w8 H8.out.ra (by simp) hTb).mono ?_
            rintro e w9 ⟨rfl, hra, hg9⟩
            rw [HE.out.2.2.1]
            have H9 := Lib.hid (H8.out.read hra hg9)
            clear hra hg9 H8
            go_wp2_with fail
            go_ret
            exact ⟨rfl, H9.out.below⟩
end Go.Proofs.Ytafipnhpoopljaa
