/- Contract of the law DeflateUntokens. -/
import Derived.Test.YtnadnokjhinmcaaDoc
import Derived.Test.YtnadnokjhinmcaaRut
namespace Go.Proofs.Ytnadnokjhinmcaa
open Go.RowKit

theorem put_length {t : Tk} {o : List UInt8} (h : refuse t o.length = 0) : (putT t o).length ≤ o.length + 258 := by
  unfold putT
  split
  · simp
  · rename_i hl
    have := refuse_ok h hl
    rw [copyN_length]
    omega
theorem untokF_length : ∀ (l : List Tk) (o o' : List UInt8), untokF l o = .ok o' → o'.length ≤ o.length + 258 * l.length
  | [], o, o', h => by injection h with h; subst h; simp
  | t :: l, o, o', h => by
    unfold untokF at h
    split at h
    · rename_i h0
      have h1 := untokF_length l _ _ h
      have h2 := put_length h0
      simp only [List.length_cons]
      omega
    · cases h
set_option maxHeartbeats 4000000 in
set_option maxRecDepth 10000 in
theorem unl_any (A : Option Addr) (n c : Nat) (l : List Tk) (w : World) (hr : RdT w w.heap.size A n l) :
    Calls Try.prog 4 #[.slice A n c] w fun e w' => e = .returned (.bool true) ∧ Below w.heap.size w w' := by
  have HR := Lib.hid hr
  clear hr
  go_enter Try.func4, Try.ntmps4
  go_wp2_with fail
  refine (alive_true w).mono ?_
  rintro e w1 ⟨rfl, hb1⟩
  have HB1 := Lib.hid hb1
  have HR1 := Lib.hid ((HR.out.below hb1).more hb1.size)
  clear hb1 HR
  by_cases hn : 200 < n
  · have d1 : decide (200 < (n : Int)) = true := decide_eq_true (by omega)
    go_wp2_with fail
    go_ret
    exact ⟨rfl, HB1.out⟩
  · have d1 : decide (200 < (n : Int)) = false := decide_eq_false (by omega)
    have HBD : RowKit.Hid (∀ k o, untokF (l.take k) [] = .ok o → o.length ≤ 900000) := Lib.hid (fun k o h => by
      have h1 := untokF_length _ _ _ h
      have h2 := HR1.out.1
      rw [List.length_take] at h1
      simp at h1
      omega)
    go_wp2_with fail
    refine (untokens_any A n c l w1 HR1.out (by omega) HBD.out).mono ?_
    rintro e w2 ⟨v, k, rfl, hb2, hcase⟩
    have HB2 := Lib.hid (HB1.out.trans (hb2.mono HB1.out.size))
    have HR2 := Lib.hid ((HR1.out.below hb2).more hb2.size)
    have HC := Lib.hid hcase
    clear hb2 hcase
    go_wp2_with fail
    refine (document_any A n c l w2 HR2.out (by omega)).mono ?_
    rintro e w3 ⟨v3, rfl, ho3, hb3⟩
    obtain ⟨A3, c3, rfl, _, hr3⟩ := ho3.rd
    have HB3 := Lib.hid (HB2.out.trans (hb3.mono HB2.out.size))
    have HR3 := Lib.hid hr3
    have HBB := Lib.hid hb3
    have hln : l.length = n := HR2.out.1
    rw [hln] at HR3
    clear ho3 hb3 hr3
    go_wp2_with fail
    refine (runtok_any A3 n c3 l w3 HR3.out (by omega) HBD.out).mono ?_
    rintro e w4 ⟨v4, k4, rfl, hb4, hcase4⟩
    have HB4 := Lib.hid (HB3.out.trans (hb4.mono HB3.out.size))
    have HC4 := Lib.hid hcase4
    have HBC := Lib.hid (HBB.out.trans (hb4.mono HBB.out.size))
    clear hb4 hcase4
    rcases HC.out with ⟨rfl, o, ho, hown⟩ | ⟨hk, he, rfl⟩
    · obtain ⟨rfl, o4, ho4, hown4⟩ : k4 = 0 ∧ ∃ o4, untokF l [] = .ok o4 ∧ Own w4 w3.heap.size v4 o4 := by
        rcases HC4.out with h | ⟨_, h⟩
        · exact h
        · rw [ho] at h; cases h
      rw [ho] at ho4
      injection ho4 with ho4
      subst ho4
      obtain ⟨Av, cv, rfl⟩ := hown.slice
      obtain ⟨A4, c4, rfl⟩ := hown4.slice
      have HX := Lib.hid (hown.rd.2.next HBC.out)
      have HY := Lib.hid hown4.rd.2
      have HN := Lib.hid (fun w => num_any 0 w)
      clear hown hown4 ho HC HC4
      go_wp2_with fail
      refine (HN.out w4).mono ?_
      rintro e wz ⟨rfl, rfl⟩
      go_wp2_with fail
      refine (bytes_same Av A4 o.length cv c4 o _ HX.out HY.out).mono ?_
      rintro e wz ⟨rfl, rfl⟩
      go_wp2_with fail
      go_ret
      exact ⟨rfl, HB4.out⟩
    · obtain rfl : k4 = k := by
        rcases HC4.out with ⟨_, o, h, _⟩ | ⟨_, h⟩
        · rw [he] at h; cases h
        · rw [he] at h; injection h with h; exact h.symm
      have HN := Lib.hid (fun w => num_any k4 w)
      have e1 : ((k4 : Int) == (k4 : Int)) = true := by simp
      have e2 : ((k4 : Int) != 0) = true := by rw [bne_iff_ne]; omega
      clear he HC HC4
      go_wp2_with fail
      refine (HN.out w4).mono ?_
      rintro e wz ⟨rfl, rfl⟩
      go_wp2_with fail
      go_ret
      exact ⟨rfl, HB4.out⟩
end Go.Proofs.Ytnadnokjhinmcaa
