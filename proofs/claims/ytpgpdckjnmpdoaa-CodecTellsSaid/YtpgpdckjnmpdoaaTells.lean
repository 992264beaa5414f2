/- The contract of the law CodecTells. -/
import Derived.Test.YtpgpdckjnmpdoaaSizes
import Derived.Test.YtpgpdckjnmpdoaaRefH
namespace Go.Proofs.Ytpgpdckjnmpdoaa
open Go.RowKit

theorem refhexK {w0 w : World} {A : Option Addr} {n : Nat} (c : Nat) {l : List UInt8} {s : ByteArray} (hr : Rd w0 w0.heap.size A n (us l)) (hb : Below w0.heap.size w0 w) (hn : n ≤ 4000) (hs : (⟨(hexL l).toArray⟩ : ByteArray) = s) :
    Calls Try.prog 9 #[.slice A n c] w fun e w' => e = .returned (.string s) ∧ Below w0.heap.size w0 w' :=
  (refhex_any A n c l w (hr.next hb) hn).mono fun _ _ ⟨h1, h2⟩ => ⟨by rw [h1, hs], hb.trans (h2.mono hb.size)⟩
theorem refbaseK {w0 w : World} {A : Option Addr} {n : Nat} (way : Bool) (c : Nat) {l : List UInt8} {s : ByteArray} (hr : Rd w0 w0.heap.size A n (us l)) (hb : Below w0.heap.size w0 w) (hn : n ≤ 4000) (hs : (⟨(txt way l).toArray⟩ : ByteArray) = s) :
    Calls Try.prog 11 #[.slice A n c, .bool way] w fun e w' => e = .returned (.string s) ∧ Below w0.heap.size w0 w' :=
  (refbase_any way A n c l w (hr.next hb) hn).mono fun _ _ ⟨h1, h2⟩ => ⟨by rw [h1, hs], hb.trans (h2.mono hb.size)⟩

set_option maxHeartbeats 400000 in
theorem tells_long (A : Option Addr) (n c : Nat) (w : World) (h : 400 < n) :
    Calls Try.prog 3 #[.slice A n c] w fun e w' => e = .returned (.bool true) ∧ Below w.heap.size w w' := by
  go_enter Try.func3, Try.ntmps3
  go_wp2_with fail
  refine (alive_true _).mono ?_
  rintro e w1 ⟨rfl, hb⟩
  have HB := Lib.hid hb
  clear hb
  go_wp2_with fail
  go_ret
  exact ⟨rfl, HB.out⟩

set_option maxHeartbeats 400000 in
theorem tells_any (A : Option Addr) (n c : Nat) (l : List UInt8) (w : World) (ha : Rd w w.heap.size A n (us l)) (hn : n ≤ 400) :
    Calls Try.prog 3 #[.slice A n c] w fun e w' => e = .returned (.bool true) ∧ Below w.heap.size w w' := by
  have RA := Lib.hid ha
  clear ha
  obtain ⟨xa, hxa⟩ : ∃ s, (⟨(hexL l).toArray⟩ : ByteArray) = s := ⟨_, rfl⟩
  obtain ⟨ba, hba⟩ : ∃ s, (⟨(baseL SB l).toArray⟩ : ByteArray) = s := ⟨_, rfl⟩
  obtain ⟨ua, hua⟩ : ∃ s, (⟨(urlL SU l).toArray⟩ : ByteArray) = s := ⟨_, rfl⟩
  have XA := Lib.hid hxa
  have PA := Lib.hid hba
  have UA := Lib.hid hua
  clear hxa hba hua
  go_enter Try.func3, Try.ntmps3
  go_wp2_with fail
  refine (alive_true _).mono ?_
  rintro e w1 ⟨rfl, hk⟩
  have K1 := Lib.hid hk
  clear hk
  go_wp2_with fail
  refine (hexK c RA.out K1.out (by omega) XA.out).mono ?_
  rintro e w2 ⟨rfl, hk⟩
  have K2 := Lib.hid hk
  clear hk K1
  go_wp2_with fail
  refine (refhexK c RA.out K2.out (by omega) XA.out).mono ?_
  rintro e w3 ⟨rfl, hk⟩
  have K3 := Lib.hid hk
  clear hk K2
  go_wp2_with fail
  refine (baseK c RA.out K3.out (by omega) PA.out).mono ?_
  rintro e w4 ⟨rfl, hk⟩
  have K4 := Lib.hid hk
  clear hk K3
  go_wp2_with fail
  refine (refbaseK false c RA.out K4.out (by omega) PA.out).mono ?_
  rintro e w5 ⟨rfl, hk⟩
  have K5 := Lib.hid hk
  clear hk K4
  go_wp2_with fail
  refine (urlK c RA.out K5.out (by omega) UA.out).mono ?_
  rintro e w6 ⟨rfl, hk⟩
  have K6 := Lib.hid hk
  clear hk K5
  go_wp2_with fail
  refine (refbaseK true c RA.out K6.out (by omega) UA.out).mono ?_
  rintro e w7 ⟨rfl, hk⟩
  have K7 := Lib.hid hk
  clear hk K6
  go_wp2_with fail
  go_ret
  exact ⟨rfl, K7.out⟩
end Go.Proofs.Ytpgpdckjnmpdoaa
