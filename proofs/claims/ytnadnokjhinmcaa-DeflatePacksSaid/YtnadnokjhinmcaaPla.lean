/- Contract of deflate's placesAlike. -/
import Derived.Test.YtnadnokjhinmcaaMat
import Derived.Maps.Own
import Derived.Maps.OwnOps
import Derived.Maps.OwnSet
import Derived.Maps.Views
namespace Go.Proofs.Ytnadnokjhinmcaa
open Go.RowKit Go.Maps

/-- What the map tells. -/
def NewOk (l : List UInt8) (k : Nat) (D : DataW Unit) : Prop := ∀ K : Nat, K < 4294967296 → match newest l k K with
  | some p => Maps.has D (.int .u32 (K : Int)) = true ∧ D.atKey (.int .u32 (K : Int)) (.lit (.int .i64 0)) = .lit (.int .i64 (p : Int))
  | none => Maps.has D (.int .u32 (K : Int)) = false
theorem zero3 (w : World) : (zeroValue 3).run Try.prog w = .ok (.int .i64 0) w := by kernel_rfl
theorem law58 : Keyed Try.prog 58 := int_keyed Try.underlying58
theorem wf32 {K : Nat} (h : K < 4294967296) : (Lit.int .u32 (K : Int)).wf = true := by
  simp [Lit.wf, IntKind.min, IntKind.max, IntKind.signed, IntKind.bits]; omega
theorem key58 {K : Nat} (h : K < 4294967296) : keyOf Try.prog 58 (.int .u32 (K : Int)) = some (.int .u32 (K : Int)) := keyOf_int_mk Try.underlying58 (wf32 h)
theorem newOk_zero (l : List UInt8) : NewOk l 0 (.map []) := fun _ _ => rfl
theorem newOk_skip {l : List UInt8} {k : Nat} {D : DataW Unit} (h : NewOk l k D) (hk : ¬ k + 3 ≤ l.length) : NewOk l (k + 1) D := fun K hK => by
  have := h K hK
  rw [newest, if_neg (by omega)]
  exact this
theorem newOk_put {l : List UInt8} {k : Nat} {D : DataW Unit} (h : NewOk l k D) (hm : Maps.IsMap D) (hk : k + 3 ≤ l.length) : NewOk l (k + 1) (D.put (.int .u32 (key3 l k : Int)) (.lit (.int .i64 (k : Int)))) := fun K hK => by
  have h1 := h K hK
  by_cases e : key3 l k = K
  · subst e
    rw [newest, if_pos ⟨hk, rfl⟩]
    exact ⟨has_put_same hm (by exact trivial) _, atKey_put_same hm (by exact trivial) _ _⟩
  · rw [newest, if_neg (fun h => e h.2)]
    have hne : (Lit.int .u32 (K : Int)) ≠ .int .u32 (key3 l k : Int) := fun h => by injection h with _ h; omega
    rw [has_put_other hne, atKey_put_other hne]
    exact h1
theorem below_drewT {B : Nat} {w w' : World} (h : Below B w w') : Below B w w'.drew := ⟨h.os, h.tape, h.output, h.size, h.block⟩
/-- What the loop keeps. -/
structure PA (w wr : World) (l : List UInt8) (n k : Nat) : Prop where
  row : Row wr w.heap.size (ib (fun i => if i < k then alikeF l i else 0) n) 3
  map : ∃ D : DataW Unit, wr.ownsMap Try.prog 58 (plainElem Try.prog 3) (w.heap.size + 1) k D ∧ NewOk l k D
  below : Below w.heap.size w wr
theorem makeB_run (m : Nat) (hm : m ≤ 1000000) (w : World) : (Instr.makeSlice 46 (.int .i64 (m : Int)) (.int .i64 (m : Int))).run Try.prog w = .ok (.slice (some ⟨w.heap.size, 0, none⟩) m m) (w.alloc (.cells (ib (fun _ => 0) m) 3)) := by
  rw [← zeros_ib]
  exact run_make_row' 46 3 (.int .i64 0) 8 Try.underlying46 info3 rfl .i64 .i64 m (by omega) (by omega) w
theorem key_or (a b e : UInt8) (K : Nat) (hK : a.toNat + 256 * b.toNat + 65536 * e.toNat = K) : bits .or .u32 (bits .or .u32 ((a.toNat : Int) % 4294967296) ((b.toNat : Int) % 4294967296 * 256 % 4294967296)) ((e.toNat : Int) % 4294967296 * 65536 % 4294967296) = (K : Int) := by
  have ha := a.toNat_lt
  have hb := b.toNat_lt
  have he := e.toNat_lt
  have h1 : (a.toNat : Int) % 4294967296 = ((a.toNat : Nat) : Int) := by omega
  have h2 : (b.toNat : Int) % 4294967296 * 256 % 4294967296 = ((b.toNat * 2 ^ 8 : Nat) : Int) := by omega
  have h3 : (e.toNat : Int) % 4294967296 * 65536 % 4294967296 = ((e.toNat * 2 ^ 16 : Nat) : Int) := by omega
  rw [h1, h2, h3, u32_or_nat _ _ (by omega) (by omega), or_add _ _ _ (by omega), u32_or_nat _ _ (by omega) (by omega), or_add _ _ _ (by omega), ← hK]
  omega
theorem alike_more (l : List UInt8) (k : Nat) (v : Int) (hv : alikeF l k = v) (i : Nat) : updI (fun i => if i < k then alikeF l i else 0) k v i = if i < k + 1 then alikeF l i else 0 := by
  unfold updI
  by_cases e : i = k
  · subst e; rw [if_pos rfl, if_pos (by omega), hv]
  · rw [if_neg e]
    show (if i < k then alikeF l i else 0) = _
    by_cases e2 : i < k
    · rw [if_pos e2, if_pos (by omega)]
    · rw [if_neg e2, if_neg (by omega)]
set_option maxHeartbeats 2000000 in
set_option maxRecDepth 10000 in
theorem places_any (A : Option Addr) (n c : Nat) (l : List UInt8) (w : World) (hr : Rd w w.heap.size A n (us l)) (hn : n ≤ 1000000) :
    Calls Try.prog 17 #[.slice A n c] w fun e w' => e = .returned (.slice (some ⟨w.heap.size, 0, none⟩) n n) ∧ Row w' w.heap.size (ib (alikeF l) n) 3 ∧ Below w.heap.size w w' := by
  have HL : RowKit.Hid (l.length = n) := Lib.hid (by have := hr.1; rwa [us_length] at this)
  have HR := Lib.hid hr
  have hmk := makeB_run n hn
  have hmm := @run_makeMap Try.prog
  clear hr
  go_enter Try.func17, Try.ntmps17
  go_wp2_with fail
  go_loopw [15] (fun i wr => ∃ k : Nat, k ≤ n ∧ i = .int .i64 (k : Int) ∧ PA w wr l n k) (fun i _ => n - (intOf i).toNat)
  case atStart => exact ⟨0, by omega, rfl, ⟨by
      have h1 : Row (w.alloc (.cells (ib (fun _ => 0) n) 3)) w.heap.size (ib (fun _ => 0) n) 3 := heap_alloc_new w _
      have h2 := h1.grown (World.grownBy_alloc _ (.map #[] 0) none) (by simp)
      simpa using h2, ⟨_, by
      have h3 := World.ownsMap_made (H := Unit) (w.alloc (.cells (ib (fun _ => 0) n) 3)) Try.prog 58 (plainElem Try.prog 3)
      simpa using h3, newOk_zero l⟩, ((Below.refl _ _).alloc (Nat.le_refl _) _).alloc (by simp) _⟩⟩
  case round =>
    obtain ⟨k, hk, rfl, hI⟩ := hrel
    have HI := Lib.hid hI
    have cr := hI.row.thawed k
    by_cases hlt : k < n
    · have d1 : decide ((k : Int) < (n : Int)) = true := decide_eq_true (by omega)
      have cs : wr.cell? ⟨w.heap.size, k, none⟩ = some (.int .i64 0) := by rw [hI.row.ib hlt]; simp
      have HR2 := Lib.hid (hI.row.ibSet k (-1))
      have HB2 := Lib.hid (hI.below.grown (grown_setCell wr w.heap.size k (.int .i64 (-1))) hI.below.size (fun j hj => by injection hj with hj; omega))
      obtain ⟨D, hD, hN⟩ := hI.map
      have HD2 := Lib.hid (hD.kept (grown_setCell wr w.heap.size k (.int .i64 (-1))) (by simp))
      have HN := Lib.hid hN
      clear hI hD hN HI
      obtain ⟨g, o, rfl, hg, hc⟩ := (HR.out.below HB2.out).byte hlt
      have HG := Lib.hid hg
      have HC := Lib.hid hc
      clear hc hg
      by_cases h3 : n < k + 3
      · have d2 : decide ((n : Int) - (k : Int) < 3) = true := decide_eq_true (by omega)
        go_wp2_with fail
        go_roundw
        case rel =>
          refine ⟨k + 1, by omega, by simp, ⟨?_, ⟨D, HD2.out.mono (by omega), newOk_skip HN.out (by rw [HL.out]; omega)⟩, HB2.out⟩⟩
          exact (ib_congr fun i _ => alike_more l k (-1) (by unfold alikeF prevP; rw [if_neg (by rw [HL.out]; omega)]) i) ▸ HR2.out
        case measure => simp [intOf]; omega
      · have d2 : decide ((n : Int) - (k : Int) < 3) = false := decide_eq_false (by omega)
        have HP3 : RowKit.Hid (prevP l k = newest l k (key3 l k)) := Lib.hid (by unfold prevP; rw [if_pos (by rw [HL.out]; omega)])
        go_wp2_with fail
        generalize wr.setCell ⟨w.heap.size, k, none⟩ (.int .i64 (-1)) = w2 at HR2 HB2 HD2 HC ⊢
        clear cs cr
        have c0 := HC.out k hlt
        have c1 := HC.out (k + 1) (by omega)
        have c2 := HC.out (k + 2) (by omega)
        obtain ⟨a, ha⟩ : ∃ a, l.getD k 0 = a := ⟨_, rfl⟩
        obtain ⟨b, hb⟩ : ∃ b, l.getD (k + 1) 0 = b := ⟨_, rfl⟩
        obtain ⟨e, he⟩ : ∃ e, l.getD (k + 2) 0 = e := ⟨_, rfl⟩
        have hkey : key3 l k = a.toNat + 256 * b.toNat + 65536 * e.toNat := by unfold key3; rw [ha, hb, he]
        rw [ha] at c0
        rw [hb] at c1
        rw [he] at c2
        have f1 : (k : Int) + 1 < (n : Int) := by omega
        have f2 : (k : Int) + 2 < (n : Int) := by omega
        go_region
        rw [key_or a b e _ hkey.symm]
        have HA : RowKit.Hid (key3 l k < 4294967296) := Lib.hid (by have := key3_lt l k; omega)
        have HK3 := key58 HA.out
        have HD3 := Lib.hid HD2.out.drew
        have HR3 := Lib.hid HR2.out.drew
        have HB3 := Lib.hid (below_drewT HB2.out)
        have HN2 := Lib.hid (newOk_put HN.out (HD2.out.isMap) (show k + 3 ≤ l.length by rw [HL.out]; omega))
        have cr2 := HR3.out.thawed k
        have cs2 : w2.drew.cell? ⟨w.heap.size, k, none⟩ = some (.int .i64 (-1)) := by rw [HR3.out.ib hlt]; simp [updI]
        have HNK := HN.out (key3 l k) HA.out
        generalize w2.drew = w3 at HD3 HR3 HB3 cr2 cs2 ⊢
        clear c0 c1 c2 HC HR2 HB2 HD2 hkey ha hb he HN HG f1 f2
        generalize (Value.pointer (some ⟨g, o + k, none⟩)) = v0
        cases hnew : newest l k (key3 l k) with
        | none =>
          rw [hnew] at HNK HP3
          have hhas : Maps.has D (.int .u32 (key3 l k : Int)) = false := HNK
          clear HNK hnew
          generalize key3 l k = K at HA HK3 HN2 hhas ⊢
          go_wp2_with (first
            | (at_lookup; refine wpList_lookup_own_ok_int _ rfl _ _ 57 rfl 58 3 .i64 law58 Try.underlying57 Try.underlying3 (zero3 _) (w.heap.size + 1) k D rfl HD3.out _ _ rfl HK3 ?_; intro cc _ _; rw [hhas])
            | (at_mapUpdate; refine wpList_mapUpdate_own _ rfl _ _ _ 57 rfl 58 3 law58 Try.underlying57 _ (w.heap.size + 1) k D rfl HD3.out (by unfold maxLen; omega) _ _ _ rfl rfl HK3 _ [] (plainElem_int Try.underlying3 (WalkArith.wf_i64 (by omega))) ?_; intro w1 hown1 hgrow1))
          go_roundw
          case rel =>
            refine ⟨k + 1, by omega, by simp, ⟨?_, ⟨_, hown1, HN2.out⟩, HB3.out.grown hgrow1 HB3.out.size (fun j hj => by injection hj with hj; omega)⟩⟩
            exact (ib_congr fun i _ => alike_more l k (-1) (by unfold alikeF; rw [HP3.out]) i) ▸ HR3.out.grown hgrow1 (by simp)
          case measure => simp [intOf]; omega
        | some p =>
          rw [hnew] at HNK HP3
          obtain ⟨hhas, hat0⟩ : Maps.has D (.int .u32 (key3 l k : Int)) = true ∧ D.atKey (.int .u32 (key3 l k : Int)) (.lit (.int .i64 0)) = .lit (.int .i64 (p : Int)) := HNK
          clear hnew
          generalize key3 l k = K at HA HK3 HN2 hhas hat0 ⊢
          have HD4 := Lib.hid (HD3.out.kept (grown_setCell w3 w.heap.size k (.int .i64 (p : Int))) (by simp))
          have HR4 := Lib.hid (HR3.out.ibSet k (p : Int))
          have HB4 := Lib.hid (HB3.out.grown (grown_setCell w3 w.heap.size k (.int .i64 (p : Int))) HB3.out.size (fun j hj => by injection hj with hj; omega))
          go_wp2_with (first
            | (at_lookup; refine wpList_lookup_own_ok_int _ rfl _ _ 57 rfl 58 3 .i64 law58 Try.underlying57 Try.underlying3 (zero3 _) (w.heap.size + 1) k D rfl HD3.out _ _ rfl HK3 ?_; intro cc hat _; rw [hhas]; rw [hat0] at hat; injection hat with hat; injection hat with _ hat; subst hat)
            | (at_mapUpdate; refine wpList_mapUpdate_own _ rfl _ _ _ 57 rfl 58 3 law58 Try.underlying57 _ (w.heap.size + 1) k D rfl HD4.out (by unfold maxLen; omega) _ _ _ rfl rfl HK3 _ [] (plainElem_int Try.underlying3 (WalkArith.wf_i64 (by omega))) ?_; intro w1 hown1 hgrow1))
          go_roundw
          case rel =>
            refine ⟨k + 1, by omega, by simp, ⟨?_, ⟨_, hown1, HN2.out⟩, HB4.out.grown hgrow1 HB4.out.size (fun j hj => by injection hj with hj; omega)⟩⟩
            refine (ib_congr fun i _ => ?_) ▸ HR4.out.grown hgrow1 (by simp)
            rw [← alike_more l k (p : Int) (by unfold alikeF; rw [HP3.out]) i]
            unfold updI
            by_cases e : i = k
            · rw [if_pos e, if_pos e]
            · rw [if_neg e, if_neg e, if_neg e]
          case measure => simp [intOf]; omega
    · obtain rfl : k = n := by omega
      have d1 : decide ((k : Int) < (k : Int)) = false := decide_eq_false (by omega)
      have HRK : RowKit.Hid (Row wr w.heap.size (ib (alikeF l) k) 3) := Lib.hid ((ib_congr fun i hi => by show (if i < k then alikeF l i else 0) = _; rw [if_pos hi]) ▸ HI.out.row)
      go_wp2_with fail
      go_ret
      exact ⟨rfl, HRK.out, HI.out.below⟩
end Go.Proofs.Ytnadnokjhinmcaa
