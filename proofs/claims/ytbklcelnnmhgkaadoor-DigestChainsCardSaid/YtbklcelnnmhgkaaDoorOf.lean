/- Contract of sha.Of. -/
import Derived.Test.YtbklcelnnmhgkaaDoorSum
namespace Go.Proofs.YtbklcelnnmhgkaaDoor
open Go.RowKit

/-- A slice of slices of bytes that can be read. -/
structure RdP (w : World) (A : Option Addr) (n : Nat) (vs : List Value) (ls : List (List UInt8)) : Prop where
  lenv : vs.length = n
  lenl : ls.length = n
  cells : 0 < n → ∃ b o, A = some ⟨b, o, none⟩ ∧ b < w.heap.size ∧ ∀ j u, vs[j]? = some u → w.cell? ⟨b, o + j, none⟩ = some u
  rows : ∀ (j : Nat) (u : Value) (l : List UInt8), vs[j]? = some u → ls[j]? = some l → ∃ (A' : Option Addr) (n' c' : Nat), u = Value.slice A' n' c' ∧ (A' = none → c' = 0) ∧ Rd w w.heap.size A' n' (us l)

theorem RdP.nil (w : World) : RdP w none 0 [] [] := ⟨rfl, rfl, fun h => by omega, fun j u l h => by simp at h⟩
theorem RdP.below {w w' : World} {A : Option Addr} {n : Nat} {vs : List Value} {ls : List (List UInt8)} (h : RdP w A n vs ls) (hb : Below w.heap.size w w') : RdP w' A n vs ls := by
  refine ⟨h.lenv, h.lenl, fun hn => ?_, fun j u l hu hl => ?_⟩
  · obtain ⟨b, o, rfl, hlt, hc⟩ := h.cells hn
    exact ⟨b, o, rfl, Nat.lt_of_lt_of_le hlt hb.size, fun j u hu => (hb.cell (p := ⟨b, o + j, none⟩) hlt).trans (hc j u hu)⟩
  · obtain ⟨A', n', c', rfl, hc, hr⟩ := h.rows j u l hu hl
    exact ⟨A', n', c', rfl, hc, hr.next hb⟩
theorem RdP.at {w : World} {A : Option Addr} {n : Nat} {vs : List Value} {ls : List (List UInt8)} (h : RdP w A n vs ls) {k : Nat} (hk : k < n) :
    ∃ b o A' n' c' l, A = some ⟨b, o, none⟩ ∧ w.cell? ⟨b, o + k, none⟩ = some (.slice A' n' c') ∧ ls[k]? = some l ∧ (A' = none → c' = 0) ∧ Rd w w.heap.size A' n' (us l) := by
  obtain ⟨b, o, rfl, hlt, hc⟩ := h.cells (by omega)
  have h1 : k < vs.length := by rw [h.lenv]; exact hk
  have h2 : k < ls.length := by rw [h.lenl]; exact hk
  obtain ⟨A', n', c', he, hz, hr⟩ := h.rows k vs[k] ls[k] (List.getElem?_eq_getElem h1) (List.getElem?_eq_getElem h2)
  exact ⟨b, o, A', n', c', ls[k], rfl, by rw [hc k _ (List.getElem?_eq_getElem h1), he], List.getElem?_eq_getElem h2, hz, hr⟩
theorem Rd.rdN {w wr : World} {A : Option Addr} {n : Nat} {xs : List Value} (h : Rd w w.heap.size A n xs) (hb : Below w.heap.size w wr) {g : Nat} (hg : w.heap.size ≤ g) : RdN wr g A n xs := by
  refine ⟨h.1, fun hn => ?_⟩
  obtain ⟨b, o, rfl, hlt, hc⟩ := h.2 hn
  exact ⟨b, o, rfl, by omega, Nat.lt_of_lt_of_le hlt hb.size, fun j u hu => (hb.cell (p := ⟨b, o + j, none⟩) hlt).trans (hc j u hu)⟩

/-- What the loop of Of keeps. -/
structure OR (w : World) (gh : Nat) (h : HS) (wr : World) : Prop where
  res : Row wr w.heap.size (u8s (List.replicate 32 0)) 24
  hash : HashAt wr gh h
  below : Below w.heap.size w wr
  tabs : Tabs wr

theorem flat_take (ls : List (List UInt8)) (k : Nat) (l : List UInt8) (h : ls[k]? = some l) : (ls.take (k + 1)).flatten = (ls.take k).flatten ++ l := by
  rw [take_more h]; simp
theorem flat_le (ls : List (List UInt8)) (k : Nat) : (ls.take k).flatten.length ≤ ls.flatten.length := by
  conv => rhs; rw [← List.take_append_drop k ls]
  rw [List.flatten_append, List.length_append]; omega

set_option maxHeartbeats 400000 in
theorem of_any (A : Option Addr) (n c : Nat) (vs : List Value) (ls : List (List UInt8)) (w : World) (hr : RdP w A n vs ls) (ht : Tabs w) (hn : ls.flatten.length ≤ 800000) (hnn : n ≤ 1000000) :
    Calls Tryd.prog 23 #[.slice A n c] w fun e w' => e = .returned (.agg (u8s (ofP ls.flatten))) ∧ Below w.heap.size w w' := by
  have HR := Lib.hid hr
  have HT := Lib.hid ht
  have HN := Lib.hid hn
  clear hr ht hn
  go_enter Tryd.func23, Tryd.ntmps23
  go_upto_region 0 with fail
  go_step
  refine alloc_row rfl 24 rfl _ 32 info25 ?_
  intro w1 r1 g1 s1
  have HT1 := Lib.hid (HT.out.grown g1 (fun _ h => by cases h))
  have R1 := Lib.hid r1
  have G1 := Lib.hid g1
  have S1 := Lib.hid s1
  clear r1 g1 s1
  go_wp2_with (first
    | (go_at_call 31; refine (new_any w1 HT1.out).mono ?_; rintro e w2 ⟨rfl, hh2, hg2⟩; have HH2 := Lib.hid hh2; have HG2 := Lib.hid hg2; clear hh2 hg2))
  have hO : OR w w1.heap.size H0 w2 := ⟨R1.out.grown HG2.out (by simp), HH2.out, (below_make G1.out).grown HG2.out (by have := S1.out; omega) (fun _ h => by cases h), HT1.out.grown HG2.out (fun _ h => by cases h)⟩
  have hgs : w1.heap.size = w.heap.size + 1 := S1.out
  generalize w1.heap.size = gh at hO hgs ⊢
  have HGH := Lib.hid hgs
  clear hgs HT1 R1 G1 S1 HH2 HG2
  go_loopw [9] (fun i wr => ∃ k : Nat, k ≤ n ∧ i = .int .i64 k ∧ OR w gh (puts H0 (ls.take k).flatten) wr) (fun i _ => n - (intOf i).toNat)
  case atStart => exact ⟨0, by omega, rfl, by simpa [puts] using hO⟩
  case round =>
    clear hO
    obtain ⟨k, hk, rfl, hO⟩ := hrel
    have hfl := flat_le ls k
    have hpn : (puts H0 (ls.take k).flatten).n = (ls.take k).flatten.length := by rw [puts_n]; show 0 + _ = _; omega
    by_cases hlt : k < n
    · have hdk : decide ((k : Int) < (n : Int)) = true := decide_eq_true (by omega)
      obtain ⟨b, o, A', n', c', l, rfl, hc, hl, _, hrd⟩ := HR.out.at hlt
      have hfl2 := flat_le ls (k + 1)
      rw [flat_take ls k l hl, List.length_append] at hfl2
      have hb : b < w.heap.size := by
        have := (World.block_lt_of_cell? _ _ hc)
        exact this
      have hc : wr.cell? ⟨b, o + k, none⟩ = some (.slice A' n' c') := (hO.below.cell (p := ⟨b, o + k, none⟩) hb).trans hc
      have hll : l.length = n' := by have := hrd.1; rwa [us_length] at this
      have hrdn : RdN wr gh A' n' (us l) := hrd.rdN hO.below (by have := HGH.out; omega)
      have hbd : (puts H0 (ls.take k).flatten).n + n' ≤ 1000000 := by have := HN.out; omega
      have HL := Lib.hid hl
      have HO := Lib.hid hO
      have HRD := Lib.hid hrdn
      have HBD := Lib.hid hbd
      clear hl hO hrdn hbd hfl hpn hfl2 hb hll hrd
      go_wp2_with fail
      have hgh := HGH.out
      have hts := HT.out.size
      refine (write_any gh A' n' c' l (puts H0 (ls.take k).flatten) wr HO.out.hash HRD.out HO.out.tabs (by omega) HBD.out).mono ?_
      rintro e w5 ⟨rfl, hh5, hg5⟩
      have HO5 : RowKit.Hid (OR w gh (puts H0 (ls.take (k + 1)).flatten) w5) := Lib.hid ⟨HO.out.res.grown hg5 (by simp; omega), by rw [flat_take ls k l HL.out, puts_append]; exact hh5, HO.out.below.grown hg5 HO.out.below.size (fun k h => by injection h with h; omega), HO.out.tabs.grown hg5 (fun k h => by injection h with h; omega)⟩
      clear hh5 hg5 hgh hts
      go_wp2_with fail
      go_roundw
      case rel => exact ⟨k + 1, by omega, by simp, HO5.out⟩
      case measure => simp [intOf]; omega
    · have hkn : k = n := by omega
      subst hkn
      have hdk : decide ((k : Int) < (k : Int)) = false := decide_eq_false (by omega)
      have htk : ls.take k = ls := List.take_of_length_le (by rw [HR.out.lenl]; omega)
      rw [htk] at hO hpn
      have hbd : (puts H0 ls.flatten).n ≤ 900000 := by have := HN.out; omega
      obtain ⟨L, HL⟩ : ∃ L, RowKit.Hid (ofP ls.flatten = L) := ⟨_, Lib.hid rfl⟩
      have HZ : RowKit.Hid ((u8s L).size = 32) := Lib.hid (by rw [← HL.out]; rfl)
      have HONE := Lib.hid (u8s_one L)
      have HO := Lib.hid hO
      have HBD := Lib.hid hbd
      clear hO hbd hpn hfl htk
      go_wp2_with (first
        | (go_at_call 33; refine (sum_any gh _ wr HO.out.hash HO.out.tabs HBD.out).mono ?_; rintro e w3 ⟨rfl, hb3⟩; have HB3 := Lib.hid hb3; clear hb3; rw [show sumP (puts H0 ls.flatten) = L from HL.out])
        | (with_reducible refine halt_store 24 ?_))
      refine Lib.hid ?_
      have hr3 := HO.out.res.below HB3.out (HO.out.res.lt)
      have hb3 : Below w.heap.size w w3 := HO.out.below.trans (HB3.out.mono HO.out.below.size)
      refine store_row rfl 24 _ _ rfl w.heap.size (u8s L) ?x1 ?x2 24 _ hr3 32 size25 HZ.out ?x3 HONE.out ?x4
      case x1 => rfl
      case x2 => rfl
      case x3 => exact u8s_size _
      case x4 =>
        intro w9 r9 g9 s9
        have HB := Lib.hid (hb3.grown g9 hb3.size (fun k h => by injection h with h; omega))
        have R9 := Lib.hid r9
        clear r9 g9 s9 hr3 hb3
        go_wp2_with fail
        refine bodyPost_ret (v := .agg (u8s L)) ?_ rfl ⟨by rw [HL.out], HB.out⟩
        exact results_cell_row rfl _ _ w.heap.size 24 (u8s L) (0, 0) _ rfl R9.out Tryd.underlying24 rfl (by rw [size25, HZ.out])

theorem of_none (w : World) (ht : Tabs w) : Calls Tryd.prog 23 #[.slice none 0 0] w fun e w' => e = .returned (.agg (u8s (ofP []))) ∧ Below w.heap.size w w' :=
  of_any none 0 0 [] [] w (RdP.nil w) ht (by decide) (by decide)

end Go.Proofs.YtbklcelnnmhgkaaDoor
