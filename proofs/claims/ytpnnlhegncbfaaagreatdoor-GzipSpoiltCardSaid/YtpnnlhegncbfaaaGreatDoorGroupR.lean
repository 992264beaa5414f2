
/- Contract of deflate's matched. -/

/- Contract of deflate's placesAlike. -/

/- Contracts of deflate's tokenAt and size. -/
import Derived.Test.YtpnnlhegncbfaaaGreatDoorGroupQ
import Derived.BigQuiet
import Derived.Maps.Own
import Derived.Maps.OwnOps
import Derived.Maps.OwnSet
import Derived.Maps.Views
namespace Go.Proofs.YtpnnlhegncbfaaaGreatDoor
set_option maxRecDepth 20000
open Go.RowKit

theorem drewN_two (w : World) (a b : Nat) : (w.drewN a).drewN b = w.drewN (a + b) := by
  induction b with
  | zero => rfl
  | succ b ih => rw [← Nat.add_assoc]; exact congrArg World.drew ih
/-- A byte of the text, where it is. -/
theorem Rd.byte {w : World} {B : Nat} {A : Option Addr} {n : Nat} {l : List UInt8} (h : Rd w B A n (us l)) {k : Nat} (hk : k < n) :
    ∃ g o, A = some ⟨g, o, none⟩ ∧ g < B ∧ ∀ j, j < n → w.cell? ⟨g, o + j, none⟩ = some (.int .u8 ((l.getD j 0).toNat : Int)) := by
  obtain ⟨g, o, rfl, hg, hc⟩ := h.2 (by omega)
  refine ⟨g, o, rfl, hg, fun j hj => hc j _ ?_⟩
  have hl : j < l.length := by have := h.1; rw [us_length] at this; omega
  simp [us, List.getElem?_eq_getElem hl, List.getD_eq_getElem?_getD]
theorem mt_more {t : List UInt8} {p q k n : Nat} (h : t.getD (p + n) 0 = t.getD (q + n) 0) : mt t p q (k + 1) n = mt t p q k (n + 1) := by
  rw [mt, if_pos h]
theorem mt_stop {t : List UInt8} {p q k n : Nat} (h : ¬ t.getD (p + n) 0 = t.getD (q + n) 0) : mt t p q (k + 1) n = n := by
  rw [mt, if_neg h]

set_option maxHeartbeats 2000000 in
theorem matched_any (A : Option Addr) (n c : Nat) (l : List UInt8) (p q most : Nat) (w : World) (hr : Rd w w.heap.size A n (us l)) (hp : p + most ≤ n) (hq : q + most ≤ n) (hn : n ≤ 1000000) :
    Calls Tryz.prog 94 #[.slice A n c, .int .i64 (p : Int), .int .i64 (q : Int), .int .i64 (most : Int)] w fun e w' => e = .returned (.int .i64 (mlen l p q most : Int)) ∧ ∃ k, w' = w.drewN k := by
  obtain ⟨X, HX⟩ : ∃ X, RowKit.Hid (mlen l p q most = X) := ⟨_, Lib.hid rfl⟩
  rw [HX.out]
  have HR := Lib.hid hr
  clear hr
  go_enter Tryz.func94, Tryz.ntmps94
  go_wp2_with fail
  go_loopw [9] (fun i wr => ∃ k s : Nat, k ≤ most ∧ i = .int .i64 (k : Int) ∧ wr = w.drewN s ∧ mt l p q (most - k) k = X) (fun i _ => most - (intOf i).toNat)
  case atStart => exact ⟨0, 0, by omega, rfl, rfl, HX.out⟩
  case round =>
    obtain ⟨k, s, hk, rfl, hwr, hm⟩ := hrel
    have HW := Lib.hid hwr
    have HM := Lib.hid hm
    clear hwr hm
    by_cases hlt : k < most
    · have d1 : decide ((k : Int) < (most : Int)) = true := decide_eq_true (by omega)
      obtain ⟨g, o, rfl, hg, hc⟩ := HR.out.byte (k := p + k) (by omega)
      have c1 : wr.cell? ⟨g, o + (p + k), none⟩ = some (.int .u8 ((l.getD (p + k) 0).toNat : Int)) := by rw [HW.out]; exact hc _ (by omega)
      have c2 : wr.cell? ⟨g, o + (q + k), none⟩ = some (.int .u8 ((l.getD (q + k) 0).toNat : Int)) := by rw [HW.out]; exact hc _ (by omega)
      obtain ⟨i1, e1⟩ : ∃ i1, p + k = i1 := ⟨_, rfl⟩
      obtain ⟨i2, e2⟩ : ∃ i2, q + k = i2 := ⟨_, rfl⟩
      have f1 : (p : Int) + (k : Int) = (i1 : Int) := by omega
      have f2 : (q : Int) + (k : Int) = (i2 : Int) := by omega
      have b1 : i1 < n := by omega
      have b2 : i2 < n := by omega
      have HE := Lib.hid (And.intro e1 e2)
      rw [e1] at c1
      rw [e2] at c2
      obtain ⟨x, hx⟩ : ∃ x, l.getD i1 0 = x := ⟨_, rfl⟩
      obtain ⟨y, hy⟩ : ∃ y, l.getD i2 0 = y := ⟨_, rfl⟩
      rw [hx] at c1
      rw [hy] at c2
      have HXY := Lib.hid (And.intro hx hy)
      clear hc hx hy e1 e2
      by_cases hxy : x = y
      · subst hxy
        have d2 : ((x.toNat : Int) == (x.toNat : Int)) = true := by simp
        have HM2 : RowKit.Hid (mt l p q (most - (k + 1)) (k + 1) = X) := Lib.hid (by
          rw [← HM.out, show most - k = (most - (k + 1)) + 1 by omega, mt_more (by rw [HE.out.1, HE.out.2, HXY.out.1, HXY.out.2])])
        go_wp2_with fail
        go_quiet (fail)
        have HW2 : RowKit.Hid (wr.drewN nq = w.drewN (s + nq)) := Lib.hid (by rw [HW.out]; exact drewN_two w s nq)
        generalize wr.drewN nq = w6 at HW2 ⊢
        clear HW c1 c2 HM
        go_wp2_with fail
        go_roundw
        case rel => exact ⟨k + 1, s + nq, by omega, by simp, HW2.out, HM2.out⟩
        case measure => simp [intOf]; omega
      · have d2 : ((x.toNat : Int) == (y.toNat : Int)) = false := by
          rw [beq_eq_false_iff_ne]
          intro e
          exact hxy (UInt8.toNat_inj.1 (by omega))
        have HXK : RowKit.Hid (X = k) := Lib.hid (by
          rw [← HM.out, show most - k = (most - (k + 1)) + 1 by omega, mt_stop (by rw [HE.out.1, HE.out.2, HXY.out.1, HXY.out.2]; exact hxy)])
        go_wp2_with fail
        go_quiet (fail)
        have HW2 : RowKit.Hid (wr.drewN nq = w.drewN (s + nq)) := Lib.hid (by rw [HW.out]; exact drewN_two w s nq)
        generalize wr.drewN nq = w6 at HW2 ⊢
        clear HW c1 c2 HM
        go_wp2_with fail
        go_ret
        exact ⟨by rw [HXK.out]; rfl, _, HW2.out⟩
    · obtain rfl : k = most := by omega
      have d1 : decide ((k : Int) < (k : Int)) = false := decide_eq_false (by omega)
      have HXK : RowKit.Hid (X = k) := Lib.hid (by rw [← HM.out, Nat.sub_self]; rfl)
      go_wp2_with fail
      go_quiet (fail)
      have HW2 : RowKit.Hid (wr.drewN nq = w.drewN (s + nq)) := Lib.hid (by rw [HW.out]; exact drewN_two w s nq)
      generalize wr.drewN nq = w6 at HW2 ⊢
      clear HW HM
      go_wp2_with fail
      go_ret
      exact ⟨by rw [HXK.out]; rfl, _, HW2.out⟩
end Go.Proofs.YtpnnlhegncbfaaaGreatDoor
namespace Go.Proofs.YtpnnlhegncbfaaaGreatDoor
set_option maxRecDepth 20000
open Go.RowKit Go.Maps

/-- What the map tells. -/
def NewOk (l : List UInt8) (k : Nat) (D : DataW Unit) : Prop := ∀ K : Nat, K < 4294967296 → match newest l k K with
  | some p => Maps.has D (.int .u32 (K : Int)) = true ∧ D.atKey (.int .u32 (K : Int)) (.lit (.int .i64 0)) = .lit (.int .i64 (p : Int))
  | none => Maps.has D (.int .u32 (K : Int)) = false
theorem zero3 (w : World) : (zeroValue 3).run Tryz.prog w = .ok (.int .i64 0) w := by kernel_rfl
theorem law58 : Keyed Tryz.prog 50 := int_keyed Tryz.underlying50
theorem wf32 {K : Nat} (h : K < 4294967296) : (Lit.int .u32 (K : Int)).wf = true := by
  simp [Lit.wf, IntKind.min, IntKind.max, IntKind.signed, IntKind.bits]; omega
theorem key58 {K : Nat} (h : K < 4294967296) : keyOf Tryz.prog 50 (.int .u32 (K : Int)) = some (.int .u32 (K : Int)) := keyOf_int_mk Tryz.underlying50 (wf32 h)
theorem newOk_zero (l : List UInt8) : NewOk l 0 (.map []) := fun _ _ => rfl
theorem newOk_skip {l : List UInt8} {k : Nat} {D : DataW Unit} (h : NewOk l k D) (hk : ¬ k + 3 ≤ l.length) : NewOk l (k + 1) D := fun K hK => by
  have := h K hK
  rw [newest, if_neg (by omega)]
  exact this
theorem newOk_put {l : List UInt8} {k : Nat} {D : DataW Unit} (h : NewOk l k D) (hm : Maps.IsMap D) (hk : k + 3 ≤ l.length) : NewOk l (k + 1) (D.put (.int .u32 (key3 l k : Int)) (.lit (.int .i64 (k : Int)))) := fun K hK => by
  have h1 := h K hK
  by_cases e : key3 l k = K
  · subst e
    rw [newest, if_pos ⟨hk, rfl⟩]
    exact ⟨has_put_same hm (by exact trivial) _, atKey_put_same hm (by exact trivial) _ _⟩
  · rw [newest, if_neg (fun h => e h.2)]
    have hne : (Lit.int .u32 (K : Int)) ≠ .int .u32 (key3 l k : Int) := fun h => by injection h with _ h; omega
    rw [has_put_other hne, atKey_put_other hne]
    exact h1
theorem below_drewT {B : Nat} {w w' : World} (h : Below B w w') : Below B w w'.drew := ⟨h.os, h.tape, h.output, h.size, h.block⟩
/-- What the loop keeps. -/
structure PA (w wr : World) (l : List UInt8) (n k : Nat) : Prop where
  row : Row wr w.heap.size (ib (fun i => if i < k then alikeF l i else 0) n) 3
  map : ∃ D : DataW Unit, wr.ownsMap Tryz.prog 50 (plainElem Tryz.prog 3) (w.heap.size + 1) k D ∧ NewOk l k D
  below : Below w.heap.size w wr
theorem makeB_run (m : Nat) (hm : m ≤ 1000000) (w : World) : (Instr.makeSlice 64 (.int .i64 (m : Int)) (.int .i64 (m : Int))).run Tryz.prog w = .ok (.slice (some ⟨w.heap.size, 0, none⟩) m m) (w.alloc (.cells (ib (fun _ => 0) m) 3)) := by
  rw [← zeros_ib]
  exact run_make_row' 64 3 (.int .i64 0) 8 Tryz.underlying64 info3 rfl .i64 .i64 m (by omega) (by omega) w
theorem key_or (a b e : UInt8) (K : Nat) (hK : a.toNat + 256 * b.toNat + 65536 * e.toNat = K) : bits .or .u32 (bits .or .u32 ((a.toNat : Int) % 4294967296) ((b.toNat : Int) % 4294967296 * 256 % 4294967296)) ((e.toNat : Int) % 4294967296 * 65536 % 4294967296) = (K : Int) := by
  have ha := a.toNat_lt
  have hb := b.toNat_lt
  have he := e.toNat_lt
  have h1 : (a.toNat : Int) % 4294967296 = ((a.toNat : Nat) : Int) := by omega
  have h2 : (b.toNat : Int) % 4294967296 * 256 % 4294967296 = ((b.toNat * 2 ^ 8 : Nat) : Int) := by omega
  have h3 : (e.toNat : Int) % 4294967296 * 65536 % 4294967296 = ((e.toNat * 2 ^ 16 : Nat) : Int) := by omega
  rw [h1, h2, h3, u32_or_nat _ _ (by omega) (by omega), or_add _ _ _ (by omega), u32_or_nat _ _ (by omega) (by omega), or_add _ _ _ (by omega), ← hK]
  omega
theorem alike_more (l : List UInt8) (k : Nat) (v : Int) (hv : alikeF l k = v) (i : Nat) : updI (fun i => if i < k then alikeF l i else 0) k v i = if i < k + 1 then alikeF l i else 0 := by
  unfold updI
  by_cases e : i = k
  · subst e; rw [if_pos rfl, if_pos (by omega), hv]
  · rw [if_neg e]
    show (if i < k then alikeF l i else 0) = _
    by_cases e2 : i < k
    · rw [if_pos e2, if_pos (by omega)]
    · rw [if_neg e2, if_neg (by omega)]
set_option maxHeartbeats 2000000 in
set_option maxRecDepth 10000 in
theorem places_any (A : Option Addr) (n c : Nat) (l : List UInt8) (w : World) (hr : Rd w w.heap.size A n (us l)) (hn : n ≤ 1000000) :
    Calls Tryz.prog 76 #[.slice A n c] w fun e w' => e = .returned (.slice (some ⟨w.heap.size, 0, none⟩) n n) ∧ Row w' w.heap.size (ib (alikeF l) n) 3 ∧ Below w.heap.size w w' := by
  have HL : RowKit.Hid (l.length = n) := Lib.hid (by have := hr.1; rwa [us_length] at this)
  have HR := Lib.hid hr
  have hmk := makeB_run n hn
  have hmm := @run_makeMap Tryz.prog
  clear hr
  go_enter Tryz.func76, Tryz.ntmps76
  go_wp2_with fail
  go_loopw [15] (fun i wr => ∃ k : Nat, k ≤ n ∧ i = .int .i64 (k : Int) ∧ PA w wr l n k) (fun i _ => n - (intOf i).toNat)
  case atStart => exact ⟨0, by omega, rfl, ⟨by
      have h1 : Row (w.alloc (.cells (ib (fun _ => 0) n) 3)) w.heap.size (ib (fun _ => 0) n) 3 := heap_alloc_new w _
      have h2 := h1.grown (World.grownBy_alloc _ (.map #[] 0) none) (by simp)
      simpa using h2, ⟨_, by
      have h3 := World.ownsMap_made (H := Unit) (w.alloc (.cells (ib (fun _ => 0) n) 3)) Tryz.prog 50 (plainElem Tryz.prog 3)
      simpa using h3, newOk_zero l⟩, ((Below.refl _ _).alloc (Nat.le_refl _) _).alloc (by simp) _⟩⟩
  case round =>
    obtain ⟨k, hk, rfl, hI⟩ := hrel
    have HI := Lib.hid hI
    have cr := hI.row.thawed k
    by_cases hlt : k < n
    · have d1 : decide ((k : Int) < (n : Int)) = true := decide_eq_true (by omega)
      have cs : wr.cell? ⟨w.heap.size, k, none⟩ = some (.int .i64 0) := by rw [hI.row.ib hlt]; simp
      have HR2 := Lib.hid (hI.row.ibSet k (-1))
      have HB2 := Lib.hid (hI.below.grown (grown_setCell wr w.heap.size k (.int .i64 (-1))) hI.below.size (fun j hj => by injection hj with hj; omega))
      obtain ⟨D, hD, hN⟩ := hI.map
      have HD2 := Lib.hid (hD.kept (grown_setCell wr w.heap.size k (.int .i64 (-1))) (by simp))
      have HN := Lib.hid hN
      clear hI hD hN HI
      obtain ⟨g, o, rfl, hg, hc⟩ := (HR.out.below HB2.out).byte hlt
      have HG := Lib.hid hg
      have HC := Lib.hid hc
      clear hc hg
      by_cases h3 : n < k + 3
      · have d2 : decide ((n : Int) - (k : Int) < 3) = true := decide_eq_true (by omega)
        go_wp2_with fail
        go_roundw
        case rel =>
          refine ⟨k + 1, by omega, by simp, ⟨?_, ⟨D, HD2.out.mono (by omega), newOk_skip HN.out (by rw [HL.out]; omega)⟩, HB2.out⟩⟩
          exact (ib_congr fun i _ => alike_more l k (-1) (by unfold alikeF prevP; rw [if_neg (by rw [HL.out]; omega)]) i) ▸ HR2.out
        case measure => simp [intOf]; omega
      · have d2 : decide ((n : Int) - (k : Int) < 3) = false := decide_eq_false (by omega)
        have HP3 : RowKit.Hid (prevP l k = newest l k (key3 l k)) := Lib.hid (by unfold prevP; rw [if_pos (by rw [HL.out]; omega)])
        go_wp2_with fail
        generalize wr.setCell ⟨w.heap.size, k, none⟩ (.int .i64 (-1)) = w2 at HR2 HB2 HD2 HC ⊢
        clear cs cr
        have c0 := HC.out k hlt
        have c1 := HC.out (k + 1) (by omega)
        have c2 := HC.out (k + 2) (by omega)
        obtain ⟨a, ha⟩ : ∃ a, l.getD k 0 = a := ⟨_, rfl⟩
        obtain ⟨b, hb⟩ : ∃ b, l.getD (k + 1) 0 = b := ⟨_, rfl⟩
        obtain ⟨e, he⟩ : ∃ e, l.getD (k + 2) 0 = e := ⟨_, rfl⟩
        have hkey : key3 l k = a.toNat + 256 * b.toNat + 65536 * e.toNat := by unfold key3; rw [ha, hb, he]
        rw [ha] at c0
        rw [hb] at c1
        rw [he] at c2
        have f1 : (k : Int) + 1 < (n : Int) := by omega
        have f2 : (k : Int) + 2 < (n : Int) := by omega
        go_region
        rw [key_or a b e _ hkey.symm]
        have HA : RowKit.Hid (key3 l k < 4294967296) := Lib.hid (by have := key3_lt l k; omega)
        have HK3 := key58 HA.out
        have HD3 := Lib.hid HD2.out.drew
        have HR3 := Lib.hid HR2.out.drew
        have HB3 := Lib.hid (below_drewT HB2.out)
        have HN2 := Lib.hid (newOk_put HN.out (HD2.out.isMap) (show k + 3 ≤ l.length by rw [HL.out]; omega))
        have cr2 := HR3.out.thawed k
        have cs2 : w2.drew.cell? ⟨w.heap.size, k, none⟩ = some (.int .i64 (-1)) := by rw [HR3.out.ib hlt]; simp [updI]
        have HNK := HN.out (key3 l k) HA.out
        generalize w2.drew = w3 at HD3 HR3 HB3 cr2 cs2 ⊢
        clear c0 c1 c2 HC HR2 HB2 HD2 hkey ha hb he HN HG f1 f2
        generalize (Value.pointer (some ⟨g, o + k, none⟩)) = v0
        cases hnew : newest l k (key3 l k) with
        | none =>
          rw [hnew] at HNK HP3
          have hhas : Maps.has D (.int .u32 (key3 l k : Int)) = false := HNK
          clear HNK hnew
          generalize key3 l k = K at HA HK3 HN2 hhas ⊢
          go_wp2_with (first
            | (at_lookup; refine wpList_lookup_own_ok_int _ rfl _ _ 153 rfl 50 3 .i64 law58 Tryz.underlying153 Tryz.underlying3 (zero3 _) (w.heap.size + 1) k D rfl HD3.out _ _ rfl HK3 ?_; intro cc _ _; rw [hhas])
            | (at_mapUpdate; refine wpList_mapUpdate_own _ rfl _ _ _ 153 rfl 50 3 law58 Tryz.underlying153 _ (w.heap.size + 1) k D rfl HD3.out (by unfold maxLen; omega) _ _ _ rfl rfl HK3 _ [] (plainElem_int Tryz.underlying3 (WalkArith.wf_i64 (by omega))) ?_; intro w1 hown1 hgrow1))
          go_roundw
          case rel =>
            refine ⟨k + 1, by omega, by simp, ⟨?_, ⟨_, hown1, HN2.out⟩, HB3.out.grown hgrow1 HB3.out.size (fun j hj => by injection hj with hj; omega)⟩⟩
            exact (ib_congr fun i _ => alike_more l k (-1) (by unfold alikeF; rw [HP3.out]) i) ▸ HR3.out.grown hgrow1 (by simp)
          case measure => simp [intOf]; omega
        | some p =>
          rw [hnew] at HNK HP3
          obtain ⟨hhas, hat0⟩ : Maps.has D (.int .u32 (key3 l k : Int)) = true ∧ D.atKey (.int .u32 (key3 l k : Int)) (.lit (.int .i64 0)) = .lit (.int .i64 (p : Int)) := HNK
          clear hnew
          generalize key3 l k = K at HA HK3 HN2 hhas hat0 ⊢
          have HD4 := Lib.hid (HD3.out.kept (grown_setCell w3 w.heap.size k (.int .i64 (p : Int))) (by simp))
          have HR4 := Lib.hid (HR3.out.ibSet k (p : Int))
          have HB4 := Lib.hid (HB3.out.grown (grown_setCell w3 w.heap.size k (.int .i64 (p : Int))) HB3.out.size (fun j hj => by injection hj with hj; omega))
          go_wp2_with (first
            | (at_lookup; refine wpList_lookup_own_ok_int _ rfl _ _ 153 rfl 50 3 .i64 law58 Tryz.underlying153 Tryz.underlying3 (zero3 _) (w.heap.size + 1) k D rfl HD3.out _ _ rfl HK3 ?_; intro cc hat _; rw [hhas]; rw [hat0] at hat; injection hat with hat; injection hat with _ hat; subst hat)
            | (at_mapUpdate; refine wpList_mapUpdate_own _ rfl _ _ _ 153 rfl 50 3 law58 Tryz.underlying153 _ (w.heap.size + 1) k D rfl HD4.out (by unfold maxLen; omega) _ _ _ rfl rfl HK3 _ [] (plainElem_int Tryz.underlying3 (WalkArith.wf_i64 (by omega))) ?_; intro w1 hown1 hgrow1))
          go_roundw
          case rel =>
            refine ⟨k + 1, by omega, by simp, ⟨?_, ⟨_, hown1, HN2.out⟩, HB4.out.grown hgrow1 HB4.out.size (fun j hj => by injection hj with hj; omega)⟩⟩
            refine (ib_congr fun i _ => ?_) ▸ HR4.out.grown hgrow1 (by simp)
            rw [← alike_more l k (p : Int) (by unfold alikeF; rw [HP3.out]) i]
            unfold updI
            by_cases e : i = k
            · rw [if_pos e, if_pos e]
            · rw [if_neg e, if_neg e, if_neg e]
          case measure => simp [intOf]; omega
    · obtain rfl : k = n := by omega
      have d1 : decide ((k : Int) < (k : Int)) = false := decide_eq_false (by omega)
      have HRK : RowKit.Hid (Row wr w.heap.size (ib (alikeF l) k) 3) := Lib.hid ((ib_congr fun i hi => by show (if i < k then alikeF l i else 0) = _; rw [if_pos hi]) ▸ HI.out.row)
      go_wp2_with fail
      go_ret
      exact ⟨rfl, HRK.out, HI.out.below⟩
end Go.Proofs.YtpnnlhegncbfaaaGreatDoor
namespace Go.Proofs.YtpnnlhegncbfaaaGreatDoor
set_option maxRecDepth 20000
open Go.RowKit

theorem size45 : (Tryz.prog.info? 108).map (·.size) = some 3 := by kernel_rfl
/-- A token's cells. -/
def tokR (a : Tk) : Array Value := #[U8 a.b, .int .i64 a.l, .int .i64 a.d]
theorem below_set1 {B : Nat} {w wr : World} (h : Below B w wr) (hB : B ≤ wr.heap.size) (g i : Nat) (hg : B ≤ g) (v : Value) : Below B w (wr.setCell ⟨g, i, none⟩ v) ∧ B ≤ (wr.setCell ⟨g, i, none⟩ v).heap.size :=
  ⟨h.grown (grown_setCell wr g i v) hB (fun j hj => by injection hj with hj; omega), Nat.le_trans hB (grown_setCell wr g i v).size⟩
theorem below_set3 {B : Nat} {w wr : World} (h : Below B w wr) (hB : B ≤ wr.heap.size) (g : Nat) (hg : B ≤ g) (a b c : Value) : Below B w (((wr.setCell ⟨g, 0, none⟩ a).setCell ⟨g, 1, none⟩ b).setCell ⟨g, 2, none⟩ c) := by
  have h1 := below_set1 h hB g 0 hg a
  have h2 := below_set1 h1.1 h1.2 g 1 hg b
  exact (below_set1 h2.1 h2.2 g 2 hg c).1
/-- max(1, x). -/
def szI (x : Int) : Int := if 1 < x then x else 1
set_option maxHeartbeats 1000000 in
theorem size_any (a : Tk) (w : World) : Calls Tryz.prog 78 #[tokV a] w fun e w' => e = .returned (.int .i64 (szI a.l)) ∧ Below w.heap.size w w' := by
  go_enter Tryz.func78, Tryz.ntmps78
  go_wp2_with fail
  all_goals
    go_ret
    refine ⟨?_, (Below.refl _ _).alloc (Nat.le_refl _) _⟩
    first
    | (rw [szI, if_pos (by omega)]; rfl)
    | (rw [szI, if_neg (by omega)]; rfl)
/-- What tokenAt's loop keeps. -/
structure TA (w wr : World) (l : List UInt8) (n q m p : Nat) (b : Nat × Nat) : Prop where
  row : Row wr (w.heap.size + 1) #[.int .u8 0, .int .i64 (b.1 : Int), .int .i64 (b.2 : Int)] 108
  res : Row wr w.heap.size #[.int .u8 0, .int .i64 0, .int .i64 0] 108
  below : Below w.heap.size w wr
  pq : p ≤ q
  bm : b.1 ≤ m
set_option maxHeartbeats 4000000 in
theorem tokenAt_any (A : Option Addr) (n c : Nat) (l : List UInt8) (H q : Nat) (w : World) (hr : Rd w w.heap.size A n (us l)) (hn : n ≤ 1000000) (hrow : Row w H (ib (alikeF l) n) 3) (hq : q < n) :
    Calls Tryz.prog 77 #[.slice A n c, .slice (some ⟨H, 0, none⟩) n n, .int .i64 (q : Int)] w fun e w' => e = .returned (tokV (tokAt l q)) ∧ Below w.heap.size w w' := by
  have HL : RowKit.Hid (l.length = n) := Lib.hid (by have := hr.1; rwa [us_length] at this)
  have HR := Lib.hid hr
  have HRow := Lib.hid hrow
  clear hr hrow
  obtain ⟨m, hm⟩ : ∃ m, mostF l.length q = m := ⟨_, rfl⟩
  obtain ⟨X, HX⟩ : ∃ X, RowKit.Hid (bestT l q = X) := ⟨_, Lib.hid rfl⟩
  have HM := Lib.hid hm
  rw [HL.out] at hm
  go_enter Tryz.func77, Tryz.ntmps77
  go_wp2_with fail
  all_goals first
    | rw [show (258 : Int) = (m : Int) by unfold mostF at hm; omega]
    | rw [show (n : Int) - (q : Int) = (m : Int) by unfold mostF at hm; omega]
  all_goals
    go_loopw [9, 18] (fun pl i wr => ∃ (k p : Nat) (b : Nat × Nat), k ≤ 64 ∧ pl = .int .i64 (p : Int) ∧ i = .int .i64 (k : Int) ∧ TA w wr l n q m p b ∧ chainT l q m (64 - k) p b = X) (fun _ i _ => 64 - (intOf i).toNat)
    case atStart =>
      have h1 : Row (w.alloc (.cells #[.int .u8 0, .int .i64 0, .int .i64 0] 108)) w.heap.size #[.int .u8 0, .int .i64 0, .int .i64 0] 108 := heap_alloc_new w _
      have h2 := h1.grown (World.grownBy_alloc _ (.cells #[.int .u8 0, .int .i64 0, .int .i64 0] 108) none) (by simp)
      have h3 := heap_alloc_new (w.alloc (.cells #[.int .u8 0, .int .i64 0, .int .i64 0] 108)) (.cells #[.int .u8 0, .int .i64 0, .int .i64 0] 108)
      exact ⟨0, q, (0, 0), by omega, rfl, rfl, ⟨by unfold Row; simpa using h3, h2, ((Below.refl _ _).alloc (Nat.le_refl _) _).alloc (by simp) _, Nat.le_refl _, Nat.zero_le _⟩, by rw [← HX.out, ← HM.out]; rfl⟩
    case round =>
      obtain ⟨k, p, b, hk, rfl, rfl, hI, hch⟩ := hrel
      have HI := Lib.hid hI
      have HC := Lib.hid hch
      have hpq := hI.pq
      have hbm := hI.bm
      have cl : wr.cell? ⟨w.heap.size + 1, 1, none⟩ = some (.int .i64 (b.1 : Int)) := hI.row.cell 1
      have cl0 : wr.cell? ⟨w.heap.size + 1, 0, none⟩ = some (.int .u8 0) := hI.row.cell 0
      have cl2 : wr.cell? ⟨w.heap.size + 1, 2, none⟩ = some (.int .i64 (b.2 : Int)) := hI.row.cell 2
      have cp : wr.cell? ⟨H, p, none⟩ = some (.int .i64 (alikeF l p)) := by rw [← Row.ib (HRow.out.below hI.below HRow.out.lt) (show p < n by omega)]
      have cr0 : wr.cell? ⟨w.heap.size, 0, none⟩ = some (.int .u8 0) := hI.res.cell 0
      have cr1 : wr.cell? ⟨w.heap.size, 1, none⟩ = some (.int .i64 0) := hI.res.cell 1
      have cr2 : wr.cell? ⟨w.heap.size, 2, none⟩ = some (.int .i64 0) := hI.res.cell 2
      have fr0 := hI.res.thawed 0
      have fr1 := hI.res.thawed 1
      have fr2 := hI.res.thawed 2
      obtain ⟨g, o, rfl, hg, hc⟩ := (HR.out.below hI.below).byte hq
      have ct := hc q hq
      have hpn : p < n := by omega
      clear hI hch hc
      by_cases hk64 : k < 64
      · have d1 : decide ((k : Int) < 64) = true := decide_eq_true (by omega)
        have HC2 : RowKit.Hid (chainT l q m ((64 - (k + 1)) + 1) p b = X) := Lib.hid (by rw [← HC.out]; congr 1; omega)
        cases hpv : prevP l p with
        | none =>
          have ha : alikeF l p = -1 := by unfold alikeF; rw [hpv]
          rw [ha] at cp
          have HXB : RowKit.Hid (b = X) := Lib.hid (by rw [← HC2.out, chainT, hpv])
          clear ha hpv HC HC2
          have HT : RowKit.Hid (tokAt l q = tokF l q b) := Lib.hid (by unfold tokAt; rw [HX.out, ← HXB.out])
          by_cases hb0 : b.1 = 0
          · have e1 : ((b.1 : Int) == 0) = true := by rw [hb0]; rfl
            have HT2 : RowKit.Hid (tokAt l q = ⟨l.getD q 0, 0, 0⟩) := Lib.hid (by rw [HT.out]; unfold tokF; rw [if_pos hb0])
            clear HT
            go_wp2_with fail
            have hrow2 := ((HI.out.res.set 0 (U8 (l.getD q 0))).set 1 (.int .i64 0)).set 2 (.int .i64 0)
            refine bodyPost_ret (results_cell_row rfl _ _ w.heap.size 108 _ (0, 0) _ rfl hrow2 Tryz.underlying108 rfl size45) rfl ?_
            exact ⟨by rw [HT2.out]; rfl, (below_set3 HI.out.below HI.out.below.size w.heap.size (Nat.le_refl _) _ _ _)⟩
          · have e1 : ((b.1 : Int) == 0) = false := by rw [beq_eq_false_iff_ne]; omega
            have HT2 : RowKit.Hid (tokAt l q = ⟨0, (b.1 : Int), (b.2 : Int)⟩) := Lib.hid (by rw [HT.out]; unfold tokF; rw [if_neg hb0])
            clear HT
            go_wp2_with fail
            have hrow2 := ((HI.out.res.set 0 (.int .u8 0)).set 1 (.int .i64 (b.1 : Int))).set 2 (.int .i64 (b.2 : Int))
            refine bodyPost_ret (results_cell_row rfl _ _ w.heap.size 108 _ (0, 0) _ rfl hrow2 Tryz.underlying108 rfl size45) rfl ?_
            exact ⟨by rw [HT2.out]; rfl, (below_set3 HI.out.below HI.out.below.size w.heap.size (Nat.le_refl _) _ _ _)⟩
        | some p2 =>
          have ha : alikeF l p = (p2 : Int) := by unfold alikeF; rw [hpv]
          rw [ha] at cp
          have hp2 : p2 < p := by
            unfold prevP at hpv
            split at hpv
            · exact (newest_some hpv).1
            · cases hpv
          have HC3 : RowKit.Hid ((if 32768 < q - p2 ∨ b.1 = m then b else chainT l q m (64 - (k + 1)) p2 (if b.1 < mlen l p2 q m then (mlen l p2 q m, q - p2) else b)) = X) := Lib.hid (by rw [← HC2.out, chainT, hpv])
          have d2 : ((p2 : Int) == -1) = false := by rw [beq_eq_false_iff_ne]; omega
          clear ha hpv HC HC2
          by_cases hf : 32768 < q - p2
          · have d3 : decide (32768 < (q : Int) - (p2 : Int)) = true := decide_eq_true (by omega)
            have HXB : RowKit.Hid (b = X) := Lib.hid (by rw [← HC3.out, if_pos (.inl hf)])
            clear HC3
            have HT : RowKit.Hid (tokAt l q = tokF l q b) := Lib.hid (by unfold tokAt; rw [HX.out, ← HXB.out])
            by_cases hb0 : b.1 = 0
            · have e1 : ((b.1 : Int) == 0) = true := by rw [hb0]; rfl
              have HT2 : RowKit.Hid (tokAt l q = ⟨l.getD q 0, 0, 0⟩) := Lib.hid (by rw [HT.out]; unfold tokF; rw [if_pos hb0])
              clear HT
              go_wp2_with fail
              have hrow2 := ((HI.out.res.set 0 (U8 (l.getD q 0))).set 1 (.int .i64 0)).set 2 (.int .i64 0)
              refine bodyPost_ret (results_cell_row rfl _ _ w.heap.size 108 _ (0, 0) _ rfl hrow2 Tryz.underlying108 rfl size45) rfl ?_
              exact ⟨by rw [HT2.out]; rfl, (below_set3 HI.out.below HI.out.below.size w.heap.size (Nat.le_refl _) _ _ _)⟩
            · have e1 : ((b.1 : Int) == 0) = false := by rw [beq_eq_false_iff_ne]; omega
              have HT2 : RowKit.Hid (tokAt l q = ⟨0, (b.1 : Int), (b.2 : Int)⟩) := Lib.hid (by rw [HT.out]; unfold tokF; rw [if_neg hb0])
              clear HT
              go_wp2_with fail
              have hrow2 := ((HI.out.res.set 0 (.int .u8 0)).set 1 (.int .i64 (b.1 : Int))).set 2 (.int .i64 (b.2 : Int))
              refine bodyPost_ret (results_cell_row rfl _ _ w.heap.size 108 _ (0, 0) _ rfl hrow2 Tryz.underlying108 rfl size45) rfl ?_
              exact ⟨by rw [HT2.out]; rfl, (below_set3 HI.out.below HI.out.below.size w.heap.size (Nat.le_refl _) _ _ _)⟩
          · have d3 : decide (32768 < (q : Int) - (p2 : Int)) = false := decide_eq_false (by omega)
            by_cases hbf : b.1 = m
            · have d4 : ((b.1 : Int) == (m : Int)) = true := by rw [hbf]; simp
              have HXB : RowKit.Hid (b = X) := Lib.hid (by rw [← HC3.out, if_pos (.inr hbf)])
              clear HC3 hbf
              have HT : RowKit.Hid (tokAt l q = tokF l q b) := Lib.hid (by unfold tokAt; rw [HX.out, ← HXB.out])
              by_cases hb0 : b.1 = 0
              · have e1 : ((b.1 : Int) == 0) = true := by rw [hb0]; rfl
                have HT2 : RowKit.Hid (tokAt l q = ⟨l.getD q 0, 0, 0⟩) := Lib.hid (by rw [HT.out]; unfold tokF; rw [if_pos hb0])
                clear HT
                go_wp2_with fail
                have hrow2 := ((HI.out.res.set 0 (U8 (l.getD q 0))).set 1 (.int .i64 0)).set 2 (.int .i64 0)
                refine bodyPost_ret (results_cell_row rfl _ _ w.heap.size 108 _ (0, 0) _ rfl hrow2 Tryz.underlying108 rfl size45) rfl ?_
                exact ⟨by rw [HT2.out]; rfl, (below_set3 HI.out.below HI.out.below.size w.heap.size (Nat.le_refl _) _ _ _)⟩
              · have e1 : ((b.1 : Int) == 0) = false := by rw [beq_eq_false_iff_ne]; omega
                have HT2 : RowKit.Hid (tokAt l q = ⟨0, (b.1 : Int), (b.2 : Int)⟩) := Lib.hid (by rw [HT.out]; unfold tokF; rw [if_neg hb0])
                clear HT
                go_wp2_with fail
                have hrow2 := ((HI.out.res.set 0 (.int .u8 0)).set 1 (.int .i64 (b.1 : Int))).set 2 (.int .i64 (b.2 : Int))
                refine bodyPost_ret (results_cell_row rfl _ _ w.heap.size 108 _ (0, 0) _ rfl hrow2 Tryz.underlying108 rfl size45) rfl ?_
                exact ⟨by rw [HT2.out]; rfl, (below_set3 HI.out.below HI.out.below.size w.heap.size (Nat.le_refl _) _ _ _)⟩
            · have d4 : ((b.1 : Int) == (m : Int)) = false := by rw [beq_eq_false_iff_ne]; omega
              have HC4 : RowKit.Hid (chainT l q m (64 - (k + 1)) p2 (if b.1 < mlen l p2 q m then (mlen l p2 q m, q - p2) else b) = X) := Lib.hid (by rw [← HC3.out, if_neg (show ¬ (32768 < q - p2 ∨ b.1 = m) by omega)])
              have HMT := Lib.hid (matched_any (some ⟨g, o, none⟩) n c l p2 q m wr ((HR.out.below HI.out.below).more HI.out.below.size) (by unfold mostF at hm; omega) (by unfold mostF at hm; omega) hn)
              have HML := Lib.hid (mlen_le l p2 q m)
              clear HC3
              obtain ⟨y, HY⟩ : ∃ y, RowKit.Hid (mlen l p2 q m = y) := ⟨_, Lib.hid rfl⟩
              rw [HY.out] at HMT HC4 HML
              go_wp2_with fail
              refine HMT.out.mono ?_
              rintro e w2 ⟨rfl, s, hw2⟩
              have HR1 : RowKit.Hid (Row w2 (w.heap.size + 1) #[.int .u8 0, .int .i64 (b.1 : Int), .int .i64 (b.2 : Int)] 108) := Lib.hid (by subst hw2; exact HI.out.row)
              have HR0 : RowKit.Hid (Row w2 w.heap.size #[.int .u8 0, .int .i64 0, .int .i64 0] 108) := Lib.hid (by subst hw2; exact HI.out.res)
              have HB2 : RowKit.Hid (Below w.heap.size w w2) := Lib.hid (by subst hw2; exact HI.out.below.trans ((below_make (grown_drewN wr s)).mono HI.out.below.size))
              have cm : w2.cell? ⟨w.heap.size + 1, 1, none⟩ = some (.int .i64 (b.1 : Int)) := HR1.out.cell 1
              have cm0 : w2.cell? ⟨w.heap.size + 1, 0, none⟩ = some (.int .u8 0) := HR1.out.cell 0
              have cm2 : w2.cell? ⟨w.heap.size + 1, 2, none⟩ = some (.int .i64 (b.2 : Int)) := HR1.out.cell 2
              have fm0 := HR1.out.thawed 0
              have fm1 := HR1.out.thawed 1
              have fm2 := HR1.out.thawed 2
              clear hw2 HMT cl cl0 cl2 cp cr0 cr1 cr2 fr0 fr1 fr2 ct HI
              by_cases hy : b.1 < y
              · have d5 : decide ((b.1 : Int) < (y : Int)) = true := decide_eq_true (by omega)
                go_wp2_with fail
                go_roundw
                case rel =>
                  have hrow2 := ((HR1.out.set 0 (.int .u8 0)).set 1 (.int .i64 (y : Int))).set 2 (.int .i64 ((q : Int) - (p2 : Int)))
                  refine ⟨k + 1, p2, (y, q - p2), by omega, rfl, by simp, ⟨?_, ?_, ?_, by omega, HML.out⟩, by rw [← HC4.out, if_pos hy]⟩
                  · have e9 : (q : Int) - (p2 : Int) = ((q - p2 : Nat) : Int) := by omega
                    rw [e9] at hrow2 ⊢
                    exact hrow2
                  · exact ((HR0.out.other (by omega) _ _).other (by omega) _ _).other (by omega) _ _
                  · exact below_set3 HB2.out HB2.out.size (w.heap.size + 1) (by omega) _ _ _
                case measure => simp [intOf]; omega
              · have d5 : decide ((b.1 : Int) < (y : Int)) = false := decide_eq_false (by omega)
                go_wp2_with fail
                go_roundw
                case rel => exact ⟨k + 1, p2, b, by omega, rfl, by simp, ⟨HR1.out, HR0.out, HB2.out, by omega, hbm⟩, by rw [← HC4.out, if_neg hy]⟩
                case measure => simp [intOf]; omega
      · obtain rfl : k = 64 := by omega
        have d1 : decide ((64 : Int) < 64) = false := rfl
        have HXB : RowKit.Hid (b = X) := Lib.hid (by rw [← HC.out]; rfl)
        clear HC
        have HT : RowKit.Hid (tokAt l q = tokF l q b) := Lib.hid (by unfold tokAt; rw [HX.out, ← HXB.out])
        by_cases hb0 : b.1 = 0
        · have e1 : ((b.1 : Int) == 0) = true := by rw [hb0]; rfl
          have HT2 : RowKit.Hid (tokAt l q = ⟨l.getD q 0, 0, 0⟩) := Lib.hid (by rw [HT.out]; unfold tokF; rw [if_pos hb0])
          clear HT
          go_wp2_with fail
          have hrow2 := ((HI.out.res.set 0 (U8 (l.getD q 0))).set 1 (.int .i64 0)).set 2 (.int .i64 0)
          refine bodyPost_ret (results_cell_row rfl _ _ w.heap.size 108 _ (0, 0) _ rfl hrow2 Tryz.underlying108 rfl size45) rfl ?_
          exact ⟨by rw [HT2.out]; rfl, (below_set3 HI.out.below HI.out.below.size w.heap.size (Nat.le_refl _) _ _ _)⟩
        · have e1 : ((b.1 : Int) == 0) = false := by rw [beq_eq_false_iff_ne]; omega
          have HT2 : RowKit.Hid (tokAt l q = ⟨0, (b.1 : Int), (b.2 : Int)⟩) := Lib.hid (by rw [HT.out]; unfold tokF; rw [if_neg hb0])
          clear HT
          go_wp2_with fail
          have hrow2 := ((HI.out.res.set 0 (.int .u8 0)).set 1 (.int .i64 (b.1 : Int))).set 2 (.int .i64 (b.2 : Int))
          refine bodyPost_ret (results_cell_row rfl _ _ w.heap.size 108 _ (0, 0) _ rfl hrow2 Tryz.underlying108 rfl size45) rfl ?_
          exact ⟨by rw [HT2.out]; rfl, (below_set3 HI.out.below HI.out.below.size w.heap.size (Nat.le_refl _) _ _ _)⟩
end Go.Proofs.YtpnnlhegncbfaaaGreatDoor
