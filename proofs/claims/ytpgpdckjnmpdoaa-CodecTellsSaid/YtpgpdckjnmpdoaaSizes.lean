/- The contract of the law CodecSizes. -/
import Derived.Test.YtpgpdckjnmpdoaaAlive
namespace Go.Proofs.Ytpgpdckjnmpdoaa
open Go.RowKit

set_option maxHeartbeats 400000 in
theorem sizes_long (A : Option Addr) (n c : Nat) (A' : Option Addr) (m c' : Nat) (w : World) (h : 2000 < n ∨ 2000 < m) :
    Calls Try.prog 6 #[.slice A n c, .slice A' m c'] w fun e w' => e = .returned (.bool true) ∧ Below w.heap.size w w' := by
  by_cases hn : 2000 < n
  · go_enter Try.func6, Try.ntmps6
    go_wp2_with fail
    refine (alive_true _).mono ?_
    rintro e w1 ⟨rfl, hb⟩
    have HB := Lib.hid hb
    clear hb
    go_wp2_with fail
    go_ret
    exact ⟨rfl, HB.out⟩
  · have hm : 2000 < m := by omega
    go_enter Try.func6, Try.ntmps6
    go_wp2_with fail
    refine (alive_true _).mono ?_
    rintro e w1 ⟨rfl, hb⟩
    have HB := Lib.hid hb
    clear hb
    go_wp2_with fail
    go_ret
    exact ⟨rfl, HB.out⟩

theorem cat_str (a b : List UInt8) : (⟨(a ++ b).toArray⟩ : ByteArray) = ⟨a.toArray⟩ ++ ⟨b.toArray⟩ := by
  apply ByteArray.ext
  simp [ByteArray.data_append]

theorem size_str (a : List UInt8) : (⟨a.toArray⟩ : ByteArray).size = a.length := rfl

theorem hexK {w0 w : World} {A : Option Addr} {n : Nat} (c : Nat) {l : List UInt8} {s : ByteArray} (hr : Rd w0 w0.heap.size A n (us l)) (hb : Below w0.heap.size w0 w) (hn : n ≤ 4000) (hs : (⟨(hexL l).toArray⟩ : ByteArray) = s) :
    Calls Try.prog 8 #[.slice A n c] w fun e w' => e = .returned (.string s) ∧ Below w0.heap.size w0 w' :=
  (hex_any A n c l w (hr.next hb) hn).mono fun _ _ ⟨h1, h2⟩ => ⟨by rw [h1, hs], hb.trans (h2.mono hb.size)⟩
theorem baseK {w0 w : World} {A : Option Addr} {n : Nat} (c : Nat) {l : List UInt8} {s : ByteArray} (hr : Rd w0 w0.heap.size A n (us l)) (hb : Below w0.heap.size w0 w) (hn : n ≤ 4000) (hs : (⟨(baseL SB l).toArray⟩ : ByteArray) = s) :
    Calls Try.prog 10 #[.slice A n c] w fun e w' => e = .returned (.string s) ∧ Below w0.heap.size w0 w' :=
  (base_any A n c l w (hr.next hb) hn).mono fun _ _ ⟨h1, h2⟩ => ⟨by rw [h1, hs], hb.trans (h2.mono hb.size)⟩
theorem urlK {w0 w : World} {A : Option Addr} {n : Nat} (c : Nat) {l : List UInt8} {s : ByteArray} (hr : Rd w0 w0.heap.size A n (us l)) (hb : Below w0.heap.size w0 w) (hn : n ≤ 4000) (hs : (⟨(urlL SU l).toArray⟩ : ByteArray) = s) :
    Calls Try.prog 12 #[.slice A n c] w fun e w' => e = .returned (.string s) ∧ Below w0.heap.size w0 w' :=
  (url_any A n c l w (hr.next hb) hn).mono fun _ _ ⟨h1, h2⟩ => ⟨by rw [h1, hs], hb.trans (h2.mono hb.size)⟩

set_option maxHeartbeats 400000 in
theorem sizes_any (A : Option Addr) (n c : Nat) (la : List UInt8) (A' : Option Addr) (m c' : Nat) (lb : List UInt8) (w : World)
    (ha : Rd w w.heap.size A n (us la)) (hb : Rd w w.heap.size A' m (us lb)) (hA : A = none → c = 0) (hA' : A' = none → c' = 0) (hn : n ≤ 2000) (hm : m ≤ 2000) :
    Calls Try.prog 6 #[.slice A n c, .slice A' m c'] w fun e w' => e = .returned (.bool true) ∧ Below w.heap.size w w' := by
  have hla : la.length = n := by have := ha.1; rwa [us_length] at this
  have hlb : lb.length = m := by have := hb.1; rwa [us_length] at this
  have HLA := Lib.hid hla
  have HLB := Lib.hid hlb
  have HA := Lib.hid ha
  have HB := Lib.hid hb
  have HC := Lib.hid hA
  have HC' := Lib.hid hA'
  clear ha hb hA hA' hla hlb
  go_enter Try.func6, Try.ntmps6
  go_wp2_with fail
  refine (alive_true _).mono ?_
  rintro e w1 ⟨rfl, hb⟩
  have H1 := Lib.hid hb
  clear hb
  go_wp2_with (at_builtin; refine cat8 _ rfl (.tmp 16) (.tmp 17) rfl w1.heap.size w.heap.size _ [] la A n c rfl rfl (Own.lit w1 _ [] 0 rfl rfl (by decide)) ?_ HC.out (by simp) (by simp; omega) ?_)
  · exact (HA.out.below H1.out).below ((Below.refl _ _).alloc H1.out.size _)
  intro v2 w2 ho2 hg2
  have ha1 : Below w.heap.size w (w1.alloc (.cells #[] 5)) := H1.out.alloc H1.out.size _
  have hB2 : Below w1.heap.size w1 w2 := (Own.lit w1 #[] [] 0 rfl rfl (by decide)).grown hg2 ((Below.refl _ _).alloc (Nat.le_refl _) _) (by simp)
  have H2 := Lib.hid (H1.out.trans (hB2.mono H1.out.size))
  have HO2 := Lib.hid ho2
  have HB2 := Lib.hid hB2
  have HS2 := Lib.hid hB2.size
  clear ho2 hg2 hB2 ha1
  go_wp2_with (at_builtin; refine cat8 w2 rfl (.tmp 18) (.tmp 19) rfl w1.heap.size w.heap.size v2 ([] ++ la) lb A' m c' rfl rfl HO2.out (HB.out.below H2.out) HC'.out HS2.out (by have := HLA.out; simp; omega) ?_)
  intro v3 w3 ho3 hg3
  have hB3 : Below w1.heap.size w1 w3 := HO2.out.grown hg3 HB2.out HS2.out
  have H3 := Lib.hid (H1.out.trans (hB3.mono H1.out.size))
  obtain ⟨A3, c3, rfl⟩ := ho3.slice
  have HR3 := Lib.hid ho3.rd.2
  have hlen : (la ++ lb).length = n + m := by rw [List.length_append, HLA.out, HLB.out]
  rw [hlen] at HR3
  rw [hlen]
  clear ho3 hg3 hB3 HO2 HB2 HS2 H2 hlen
  have RA := Lib.hid (HA.out.next H3.out)
  have RB := Lib.hid (HB.out.next H3.out)
  have RC := HR3
  have K3 := Lib.hid (Below.refl w3.heap.size w3)
  clear H1 HR3 HA HB HC HC'
  obtain ⟨xa, hxa⟩ : ∃ s, (⟨(hexL la).toArray⟩ : ByteArray) = s := ⟨_, rfl⟩
  obtain ⟨xb, hxb⟩ : ∃ s, (⟨(hexL lb).toArray⟩ : ByteArray) = s := ⟨_, rfl⟩
  obtain ⟨ba, hba⟩ : ∃ s, (⟨(baseL SB la).toArray⟩ : ByteArray) = s := ⟨_, rfl⟩
  obtain ⟨bb, hbb⟩ : ∃ s, (⟨(baseL SB lb).toArray⟩ : ByteArray) = s := ⟨_, rfl⟩
  obtain ⟨ua, hua⟩ : ∃ s, (⟨(urlL SU la).toArray⟩ : ByteArray) = s := ⟨_, rfl⟩
  obtain ⟨ub, hub⟩ : ∃ s, (⟨(urlL SU lb).toArray⟩ : ByteArray) = s := ⟨_, rfl⟩
  have t1 : ((xa.size : Int) != 2 * (n : Int)) = false := by rw [← hxa, size_str, hexL_length, HLA.out]; simp
  have t2 : ((ba.size : Int) != ((n : Int) + 2) / 3 * 4) = false := by rw [← hba, size_str, baseL_length, HLA.out]; simp
  have t3 : ((ua.size : Int) != ((n : Int) * 8 + 5) / 6) = false := by rw [← hua, size_str, urlL_length, HLA.out]; simp
  have hxc : (⟨(hexL (la ++ lb)).toArray⟩ : ByteArray) = xa ++ xb := by rw [hexL_append, cat_str, hxa, hxb]
  have z1 : xa.size ≤ 100000 := by rw [← hxa, size_str, hexL_length, HLA.out]; omega
  have z2 : xb.size ≤ 100000 := by rw [← hxb, size_str, hexL_length, HLB.out]; omega
  have z3 : ba.size ≤ 100000 := by rw [← hba, size_str, baseL_length, HLA.out]; omega
  have z4 : bb.size ≤ 100000 := by rw [← hbb, size_str, baseL_length, HLB.out]; omega
  have z5 : ua.size ≤ 100000 := by rw [← hua, size_str, urlL_length, HLA.out]; omega
  have z6 : ub.size ≤ 100000 := by rw [← hub, size_str, urlL_length, HLB.out]; omega
  have XA := Lib.hid hxa
  have XB := Lib.hid hxb
  have XC := Lib.hid hxc
  have PA := Lib.hid hba
  have PB := Lib.hid hbb
  have UA := Lib.hid hua
  have UB := Lib.hid hub
  clear hxa hxb hxc hba hbb hua hub
  go_wp2_with fail
  refine (hexK c RA.out K3.out (by omega) XA.out).mono ?_
  rintro e w4 ⟨rfl, hk⟩
  have K4 := Lib.hid hk
  clear hk K3
  go_wp2_with fail
  refine (baseK c RA.out K4.out (by omega) PA.out).mono ?_
  rintro e w5 ⟨rfl, hk⟩
  have K5 := Lib.hid hk
  clear hk K4
  go_wp2_with fail
  refine (urlK c RA.out K5.out (by omega) UA.out).mono ?_
  rintro e w6 ⟨rfl, hk⟩
  have K6 := Lib.hid hk
  clear hk K5
  go_wp2_with fail
  refine (hexK c RA.out K6.out (by omega) XA.out).mono ?_
  rintro e w7 ⟨rfl, hk⟩
  have K7 := Lib.hid hk
  clear hk K6
  go_wp2_with fail
  refine (hexK c' RB.out K7.out (by omega) XB.out).mono ?_
  rintro e w8 ⟨rfl, hk⟩
  have K8 := Lib.hid hk
  clear hk K7
  go_wp2_with fail
  refine (hexK c3 RC.out K8.out (by omega) XC.out).mono ?_
  rintro e w9 ⟨rfl, hk⟩
  have K9 := Lib.hid hk
  clear hk K8
  by_cases h3 : n % 3 = 0
  · have h3i : (((n : Int) % 3) != 0) = false := by simp; omega
    have hbc : (⟨(baseL SB (la ++ lb)).toArray⟩ : ByteArray) = ba ++ bb := by rw [baseL_append _ _ _ (by rw [HLA.out]; exact h3), cat_str, PA.out, PB.out]
    have huc : (⟨(urlL SU (la ++ lb)).toArray⟩ : ByteArray) = ua ++ ub := by rw [urlL_append _ _ _ (by rw [HLA.out]; exact h3), cat_str, UA.out, UB.out]
    have PC := Lib.hid hbc
    have UC := Lib.hid huc
    have HH3 := Lib.hid h3
    clear hbc huc h3
    go_wp2_with fail
    refine (baseK c RA.out K9.out (by omega) PA.out).mono ?_
    rintro e w10 ⟨rfl, hk⟩
    have K10 := Lib.hid hk
    clear hk K9
    go_wp2_with fail
    refine (baseK c' RB.out K10.out (by omega) PB.out).mono ?_
    rintro e w11 ⟨rfl, hk⟩
    have K11 := Lib.hid hk
    clear hk K10
    go_wp2_with fail
    refine (baseK c3 RC.out K11.out (by omega) PC.out).mono ?_
    rintro e w12 ⟨rfl, hk⟩
    have K12 := Lib.hid hk
    clear hk K11
    go_wp2_with fail
    refine (urlK c RA.out K12.out (by omega) UA.out).mono ?_
    rintro e w13 ⟨rfl, hk⟩
    have K13 := Lib.hid hk
    clear hk K12
    go_wp2_with fail
    refine (urlK c' RB.out K13.out (by omega) UB.out).mono ?_
    rintro e w14 ⟨rfl, hk⟩
    have K14 := Lib.hid hk
    clear hk K13
    go_wp2_with fail
    refine (urlK c3 RC.out K14.out (by omega) UC.out).mono ?_
    rintro e w15 ⟨rfl, hk⟩
    have K15 := Lib.hid hk
    clear hk K14
    go_wp2_with fail
    go_ret
    exact ⟨rfl, H3.out.trans (K15.out.mono H3.out.size)⟩
  · have h3i : (((n : Int) % 3) != 0) = true := by simp; omega
    have HH3 := Lib.hid h3
    clear h3
    go_wp2_with fail
    go_ret
    exact ⟨rfl, H3.out.trans (K9.out.mono H3.out.size)⟩
end Go.Proofs.Ytpgpdckjnmpdoaa
