/- Contracts of the laws ShaTells and ShaEdges. -/
import Derived.Test.YtggdfegebgnkbaaDoorRof
import Derived.Test.YtggdfegebgnkbaaDoorParts
import Derived.Test.YtggdfegebgnkbaaDoorEq
namespace Go.Proofs.YtggdfegebgnkbaaDoor
open Go.RowKit

theorem fill_total (n : Nat) : (n + (fillP n).length) % 64 = 0 := by
  unfold fillP
  rw [List.length_append, List.length_cons, List.length_replicate, tail8_length]
  have := gap_done n
  omega
theorem of_ref (l : List UInt8) : ofP l = refP l := by
  have hn : (puts H0 l).n = l.length := by rw [puts_n]; show 0 + _ = _; omega
  have h1 : ofP l = outL (puts H0 (l ++ fillP l.length)).st := by
    unfold ofP sumP
    rw [hn, puts_append]
  obtain ⟨T, hT⟩ : ∃ T, l ++ fillP l.length = T := ⟨_, rfl⟩
  have h64 : T.length % 64 = 0 := by rw [← hT, List.length_append]; exact fill_total l.length
  obtain ⟨nb, hnb⟩ : ∃ nb, T.length = 64 * nb := ⟨T.length / 64, by omega⟩
  obtain ⟨blk, _, he⟩ := puts_blocks T nb hnb nb (Nat.le_refl _)
  rw [List.take_of_length_le (by omega)] at he
  rw [h1, hT, he]
  unfold refP
  rw [hT, hnb, Nat.mul_div_cancel_left nb (by decide)]
  rfl

theorem one_part {w : World} {B : Nat} {A : Option Addr} {c : Nat} {M : List UInt8} (h : Own w B (.slice A M.length c) M) :
    RdP (w.alloc (.cells #[.slice A M.length c] 22)) (some ⟨w.heap.size, 0, none⟩) 1 [.slice A M.length c] [M] :=
  RdP.lit w #[.slice A M.length c] [.slice A M.length c] [M] 1 rfl rfl rfl (fun j u l hu hl => by
    match j, hu, hl with
    | 0, hu, hl =>
      injection hu with hu
      injection hl with hl
      subst hu hl
      refine ⟨A, M.length, c, rfl, fun e => ?_, h.rd.2⟩
      rcases h.2 with ⟨hv, _⟩ | ⟨q, cap, cur, hv, _⟩
      · injection hv
      · injection hv with h1
        rw [e] at h1
        cases h1)
theorem Own.none {w : World} {B : Nat} {A : Option Addr} {n c : Nat} {M : List UInt8} (h : Own w B (.slice A n c) M) : A = none → c = 0 := fun e => by
  rcases h.2 with ⟨hv, _⟩ | ⟨q, cap, cur, hv, _⟩
  · injection hv
  · injection hv with h1
    rw [e] at h1
    cases h1
theorem Own.after {w w' : World} {B : Nat} {v : Value} {M : List UInt8} (h : Own w B v M) (hb : Below w.heap.size w w') : Own w' B v M :=
  World.ownsRow.kept h (grown_of_below hb) (by rcases hv : v.ownBlock with _ | k; exact .inl rfl; exact .inr (by simp))

set_option maxHeartbeats 400000 in
theorem tells_long (A : Option Addr) (n c : Nat) (w : World) (ht : Tabs w) (hn : 400 < n) :
    Calls Tryd.prog 3 #[.slice A n c] w fun e w' => e = .returned (.bool true) ∧ Below w.heap.size w w' := by
  have HT := Lib.hid ht
  clear ht
  go_enter Tryd.func3, Tryd.ntmps3
  go_wp2_with fail
  refine (alive_true w HT.out).mono ?_
  rintro e w1 ⟨rfl, hb1⟩
  have HB1 := Lib.hid hb1
  clear hb1
  go_wp2_with fail
  go_ret
  exact ⟨rfl, HB1.out⟩

set_option maxHeartbeats 400000 in
theorem tells_any (A : Option Addr) (n c : Nat) (l : List UInt8) (w : World) (hr : Rd w w.heap.size A n (us l)) (hA0 : A = none → c = 0) (ht : Tabs w) (hn : n ≤ 400) :
    Calls Tryd.prog 3 #[.slice A n c] w fun e w' => e = .returned (.bool true) ∧ Below w.heap.size w w' := by
  have hln : l.length = n := by have := hr.1; rwa [us_length] at this
  have HLN := Lib.hid hln
  have HT := Lib.hid ht
  have HR := Lib.hid hr
  have HA0 := Lib.hid hA0
  clear ht hr hA0 hln
  obtain ⟨L, HL⟩ : ∃ L, RowKit.Hid (ofP l = L) := ⟨_, Lib.hid rfl⟩
  have hsame := same25 L (by rw [← HL.out]; rfl)
  go_enter Tryd.func3, Tryd.ntmps3
  go_wp2_with fail
  refine (alive_true w HT.out).mono ?_
  rintro e w1 ⟨rfl, hb1⟩
  have HB1 := Lib.hid hb1
  clear hb1
  have hO0 : Own (w1.alloc (.cells #[] 5)) w1.heap.size (.slice (some ⟨w1.heap.size, 0, none⟩) 0 0) [] := Own.lit w1 #[] [] 0 rfl rfl (by decide)
  have HO0 := Lib.hid hO0
  have HB0 := Lib.hid (HB1.out.alloc HB1.out.size (.cells #[] 5))
  clear hO0
  go_wp2_with (at_builtin; refine cat8 (w1.alloc (.cells #[] 5)) rfl (.tmp 9) (.tmp 10) rfl w1.heap.size w.heap.size _ [] l A n c rfl rfl HO0.out (HR.out.below HB0.out) HA0.out (by simp) (by simp; omega) ?_)
  intro v2 w2 ho hg
  have hb2 : Below w.heap.size w w2 := HB0.out.grown hg HB0.out.size (fun k e => by
    have := (World.ownsRow.lt HO0.out k e).1
    have := HB1.out.size
    omega)
  change Own w2 w1.heap.size v2 l at ho
  obtain ⟨A2, c2, rfl⟩ := ho.slice
  have HO2 := Lib.hid ho
  have HB2 := Lib.hid hb2
  clear ho hg hb2 HO0 HB0 HB1
  go_wp2_with fail
  have hrp := one_part HO2.out
  have hba : Below w2.heap.size w2 (w2.alloc (.cells #[.slice A2 l.length c2] 22)) := (Below.refl _ _).alloc (Nat.le_refl _) _
  have HO3 := Lib.hid (HO2.out.after hba)
  have HB3 := Lib.hid (HB2.out.trans (hba.mono HB2.out.size))
  clear hba HO2 HB2
  generalize w2.alloc (.cells #[.slice A2 l.length c2] 22) = w3 at hrp HO3 HB3 ⊢
  refine (of_any _ 1 1 _ _ w3 hrp (HT.out.below HB3.out HT.out.size) (by have := HLN.out; simp; omega) (by decide)).mono ?_
  rintro e w4 ⟨rfl, hb4⟩
  rw [show ofP [l].flatten = L by rw [← HL.out]; simp]
  have HO4 := Lib.hid (HO3.out.after hb4)
  have HB4 := Lib.hid (HB3.out.trans (hb4.mono HB3.out.size))
  clear hb4 HO3 HB3 hrp
  go_wp2_with fail
  refine (refof_any A n c l w4 (HR.out.next HB4.out) HA0.out hn).mono ?_
  rintro e w5 ⟨rfl, hb5⟩
  rw [show refP l = L by rw [← HL.out]; exact (of_ref l).symm]
  have HO5 := Lib.hid (HO4.out.after hb5)
  have HB5 := Lib.hid (HB4.out.trans (hb5.mono HB4.out.size))
  clear hb5 HO4 HB4
  have hs1 := str8 w5 _ A2 _ c2 l HO5.out.rd.2
  have hs2 := str8 w5 _ A n c l (HR.out.next HB5.out)
  go_wp2_with fail
  go_ret
  exact ⟨rfl, HB5.out⟩

set_option maxHeartbeats 400000 in
theorem edges_any (x : Int) (many : Int) (w : World) (ht : Tabs w) (hx : 0 ≤ x ∧ x < 256) :
    Calls Tryd.prog 5 #[.int .u8 x, .int .i64 many] w fun e w' => e = .returned (.bool true) ∧ Below w.heap.size w w' := by
  have HT := Lib.hid ht
  clear ht
  obtain ⟨y, rfl⟩ : ∃ y : UInt8, x = (y.toNat : Int) := ⟨UInt8.ofNat x.toNat, by rw [UInt8.toNat_ofNat']; omega⟩
  clear hx
  go_enter Tryd.func5, Tryd.ntmps5
  go_wp2_with fail
  refine (alive_true w HT.out).mono ?_
  rintro e w1 ⟨rfl, hb1⟩
  have HB1 := Lib.hid hb1
  clear hb1
  go_wp2_with fail
  obtain ⟨m, hm3, hm⟩ : ∃ m : Nat, m < 300 ∧ wrap64 ((IntKind.u64.wrap many).tmod 300) = (m : Int) := by
    have h0 : 0 ≤ IntKind.u64.wrap many := by rw [IntKind.wrap_u64]; omega
    have h1 : (IntKind.u64.wrap many).tmod 300 = (IntKind.u64.wrap many) % 300 := Int.tmod_eq_emod_of_nonneg h0
    refine ⟨((IntKind.u64.wrap many) % 300).toNat, by omega, ?_⟩
    rw [h1]
    have h2 : 0 ≤ (IntKind.u64.wrap many) % 300 ∧ (IntKind.u64.wrap many) % 300 < 300 := by omega
    generalize (IntKind.u64.wrap many) % 300 = z at h2
    unfold wrap64
    omega
  rw [hm]
  generalize (IntKind.u64.wrap many).tmod 300 = z1
  generalize IntKind.u64.wrap many = z2
  clear hm
  have hO0 : Own (w1.alloc (.cells #[] 5)) w1.heap.size (.slice (some ⟨w1.heap.size, 0, none⟩) 0 0) [] := Own.lit w1 #[] [] 0 rfl rfl (by decide)
  have hb0 := HB1.out.alloc HB1.out.size (.cells #[] 5)
  have hB0 : w1.heap.size ≤ (w1.alloc (.cells #[] 5)).heap.size := by simp
  have hwB : w.heap.size ≤ w1.heap.size := HB1.out.size
  generalize w1.alloc (.cells #[] 5) = w2 at hO0 hb0 hB0 ⊢
  generalize Value.slice (some ⟨w1.heap.size, 0, none⟩) 0 0 = v0 at hO0 ⊢
  generalize w1.heap.size = B at hO0 hwB hB0
  have HWB := Lib.hid hwB
  clear hwB HB1
  go_loopw [5, 13] (fun v i wr => ∃ k : Nat, k ≤ m ∧ i = .int .i64 k ∧ Own wr B v (List.replicate k y) ∧ Below w.heap.size w wr ∧ B ≤ wr.heap.size) (fun _ i _ => m - (intOf i).toNat)
  case atStart => exact ⟨0, by omega, rfl, hO0, hb0, hB0⟩
  case round =>
    clear hO0 hb0 hB0
    obtain ⟨k, hk, rfl, hO, hb, hB⟩ := hrel
    obtain ⟨F, hF⟩ : ∃ F, List.replicate k y = F := ⟨_, rfl⟩
    have hFl : F.length = k := by rw [← hF]; simp
    rw [hF] at hO
    have HF := Lib.hid hF
    have HFL := Lib.hid hFl
    have HO := Lib.hid hO
    have HB := Lib.hid hb
    have HBS := Lib.hid hB
    clear hF hFl hb hB
    obtain ⟨A3, c3, rfl⟩ := hO.slice
    clear hO
    by_cases hlt : k < m
    · have hdk : decide ((k : Int) < (m : Int)) = true := decide_eq_true (by omega)
      go_wp2_with (at_builtin; refine push8 wr rfl (.tmp 15) (.tmp 17) rfl B _ F [y] _ 1 rfl rfl HO.out rfl rfl HBS.out (by have := HFL.out; omega) ?_)
      intro v' w' ho hg'
      have HO2 := Lib.hid ho
      have HB2 := Lib.hid (HB.out.grown hg' HB.out.size (fun k e => by
        have := (World.ownsRow.lt HO.out k e).1
        have := HWB.out
        omega))
      have HS2 := Lib.hid (Nat.le_trans HBS.out hg'.size)
      clear ho hg'
      go_wp2_with fail
      go_roundw
      case rel => exact ⟨k + 1, by omega, by simp, by rw [List.replicate_succ', HF.out]; exact HO2.out, HB2.out, HS2.out⟩
      case measure => simp [intOf]; omega
    · have hkm : k = m := by omega
      subst hkm
      have hdk : decide ((k : Int) < (k : Int)) = false := decide_eq_false (by omega)
      obtain ⟨L, HL⟩ : ∃ L, RowKit.Hid (ofP F = L) := ⟨_, Lib.hid rfl⟩
      have hsame := same25 L (by rw [← HL.out]; rfl)
      go_wp2_with fail
      have hrp := one_part HO.out
      have hba : Below wr.heap.size wr (wr.alloc (.cells #[.slice A3 F.length c3] 22)) := (Below.refl _ _).alloc (Nat.le_refl _) _
      have HO3 := Lib.hid (HO.out.after hba)
      have HB3 := Lib.hid (HB.out.trans (hba.mono HB.out.size))
      clear hba HO HB
      generalize wr.alloc (.cells #[.slice A3 F.length c3] 22) = w3 at hrp HO3 HB3 ⊢
      refine (of_any _ 1 1 _ _ w3 hrp (HT.out.below HB3.out HT.out.size) (by have := HFL.out; simp; omega) (by decide)).mono ?_
      rintro e w4 ⟨rfl, hb4⟩
      rw [show ofP [F].flatten = L by rw [← HL.out]; simp]
      have HO4 := Lib.hid (HO3.out.after hb4)
      have HB4 := Lib.hid (HB3.out.trans (hb4.mono HB3.out.size))
      clear hb4 HO3 HB3 hrp
      go_wp2_with fail
      refine (refof_any A3 F.length c3 F w4 HO4.out.rd.2 HO4.out.none (by have := HFL.out; omega)).mono ?_
      rintro e w5 ⟨rfl, hb5⟩
      rw [show refP F = L by rw [← HL.out]; exact (of_ref F).symm]
      have HB5 := Lib.hid (HB4.out.trans (hb5.mono HB4.out.size))
      clear hb5 HO4 HB4
      go_wp2_with fail
      go_ret
      exact ⟨rfl, HB5.out⟩
end Go.Proofs.YtggdfegebgnkbaaDoor
