/- The contract of the law CodecBack. -/
import Derived.Test.YtpgpdckjnmpdoaaSizes
import Derived.Test.YtpgpdckjnmpdoaaUn
namespace Go.Proofs.Ytpgpdckjnmpdoaa
open Go.RowKit

theorem back_long (A : Option Addr) (n c : Nat) (s : ByteArray) (w : World) (h : 2000 < n ∨ 2000 < s.size) (hs : s.size ≤ 9223372036854775807) :
    Calls Try.prog 5 #[.slice A n c, .string s] w fun e w' => e = .returned (.bool true) ∧ Below w.heap.size w w' := by
  by_cases hn : 2000 < n
  · go_enter Try.func5, Try.ntmps5
    go_wp2_with fail
    refine (alive_true _).mono ?_
    rintro e w1 ⟨rfl, hb⟩
    have HB := Lib.hid hb
    clear hb
    go_wp2_with fail
    go_ret
    exact ⟨rfl, HB.out⟩
  · have hm : 2000 < s.size := by omega
    go_enter Try.func5, Try.ntmps5
    go_wp2_with fail
    refine (alive_true _).mono ?_
    rintro e w1 ⟨rfl, hb⟩
    have HB := Lib.hid hb
    clear hb
    go_wp2_with fail
    go_ret
    exact ⟨rfl, HB.out⟩

theorem got_some {w w' : World} {r : Option (List UInt8)} {o : List UInt8} {e : Ending} (h : Got w r e w') (hr : r = some o) :
    ∃ A c, e = .returned (.tuple #[.slice A o.length c, .nilIface]) ∧ Rd w' w'.heap.size A o.length (us o) ∧ Below w.heap.size w w' := by
  rw [hr] at h
  obtain ⟨v, rfl, hG⟩ := h
  obtain ⟨A, c, rfl⟩ := hG.own.slice
  exact ⟨A, c, rfl, hG.own.rd.2, hG.below⟩
theorem got_none {w w' : World} {r : Option (List UInt8)} {e : Ending} (h : Got w r e w') (hr : r = none) :
    e = .returned (.tuple #[.slice none 0 0, .iface 42 (.int .i64 2)]) ∧ Below w.heap.size w w' := by
  rw [hr] at h
  exact h

theorem str_back {s : ByteArray} {l : List UInt8} (h : l = s.data.toList) : (⟨l.toArray⟩ : ByteArray) = s := by
  rw [h]

theorem same_true (l : List UInt8) : (l == l) = true := by simp

set_option maxHeartbeats 1000000 in
theorem back_any (A : Option Addr) (n c : Nat) (l : List UInt8) (s : ByteArray) (w : World) (ha : Rd w w.heap.size A n (us l)) (hn : n ≤ 2000) (hs : s.size ≤ 2000) :
    Calls Try.prog 5 #[.slice A n c, .string s] w fun e w' => e = .returned (.bool true) ∧ Below w.heap.size w w' := by
  have hla : l.length = n := by have := ha.1; rwa [us_length] at this
  have HLA := Lib.hid hla
  have RAv0 := Lib.hid ha
  have KBv0 := Lib.hid (Below.refl w.heap.size w)
  clear ha hla
  go_enter Try.func5, Try.ntmps5
  go_wp2_with fail
  refine (alive_true w).mono ?_
  rintro e w1 ⟨rfl, hb⟩
  have KBv1 := Lib.hid (KBv0.out.trans (hb.mono KBv0.out.size))
  have RAv1 := Lib.hid (RAv0.out.next hb)
  clear hb KBv0 RAv0
  go_wp2_with fail
  refine (hex_any A n c l w1 RAv1.out (by omega)).mono ?_
  rintro e w2 ⟨rfl, hb⟩
  have KBv2 := Lib.hid (KBv1.out.trans (hb.mono KBv1.out.size))
  have RAv2 := Lib.hid (RAv1.out.next hb)
  clear hb KBv1 RAv1
  have z1 : (⟨(hexL l).toArray⟩ : ByteArray).size ≤ 8000 := by rw [size_str, hexL_length, HLA.out]; omega
  have R1 := Lib.hid (show unhexL (⟨(hexL l).toArray⟩ : ByteArray).data.toList = some l from unhex_hex l)
  generalize (⟨(hexL l).toArray⟩ : ByteArray) = t1 at z1 R1 ⊢
  go_wp2_with fail
  refine (unhex_any t1 w2 z1).mono ?_
  intro e w3 hg
  obtain ⟨A1, c1, rfl, hrd, hb⟩ := got_some hg R1.out
  clear hg
  have KBv3 := Lib.hid (KBv2.out.trans (hb.mono KBv2.out.size))
  have RAv3 := Lib.hid (RAv2.out.next hb)
  clear hb KBv2 RAv2
  have RXv0 := Lib.hid hrd
  clear hrd
  go_wp2_with fail
  refine (base_any A n c l w3 RAv3.out (by omega)).mono ?_
  rintro e w4 ⟨rfl, hb⟩
  have KBv4 := Lib.hid (KBv3.out.trans (hb.mono KBv3.out.size))
  have RAv4 := Lib.hid (RAv3.out.next hb)
  have RXv1 := Lib.hid (RXv0.out.next hb)
  clear hb KBv3 RAv3 RXv0
  have z2 : (⟨(baseL SB l).toArray⟩ : ByteArray).size ≤ 4000 := by rw [size_str, baseL_length, HLA.out]; omega
  have R2 := Lib.hid (show unbaseL SB (⟨(baseL SB l).toArray⟩ : ByteArray).data.toList = some l from unbase_base l)
  generalize (⟨(baseL SB l).toArray⟩ : ByteArray) = t2 at z2 R2 ⊢
  go_wp2_with fail
  refine (unbase_any t2 w4 z2).mono ?_
  intro e w5 hg
  obtain ⟨A2, c2, rfl, hrd, hb⟩ := got_some hg R2.out
  clear hg
  have KBv5 := Lib.hid (KBv4.out.trans (hb.mono KBv4.out.size))
  have RAv5 := Lib.hid (RAv4.out.next hb)
  have RXv2 := Lib.hid (RXv1.out.next hb)
  clear hb KBv4 RAv4 RXv1
  have RYv0 := Lib.hid hrd
  clear hrd
  go_wp2_with fail
  refine (url_any A n c l w5 RAv5.out (by omega)).mono ?_
  rintro e w6 ⟨rfl, hb⟩
  have KBv6 := Lib.hid (KBv5.out.trans (hb.mono KBv5.out.size))
  have RAv6 := Lib.hid (RAv5.out.next hb)
  have RXv3 := Lib.hid (RXv2.out.next hb)
  have RYv1 := Lib.hid (RYv0.out.next hb)
  clear hb KBv5 RAv5 RXv2 RYv0
  have z3 : (⟨(urlL SU l).toArray⟩ : ByteArray).size ≤ 4000 := by rw [size_str, urlL_length, HLA.out]; omega
  have R3 := Lib.hid (show decL SU (⟨(urlL SU l).toArray⟩ : ByteArray).data.toList = some l from unurl_url l)
  generalize (⟨(urlL SU l).toArray⟩ : ByteArray) = t3 at z3 R3 ⊢
  go_wp2_with fail
  refine (unurl_any t3 w6 z3).mono ?_
  intro e w7 hg
  obtain ⟨A3, c3, rfl, hrd, hb⟩ := got_some hg R3.out
  clear hg
  have KBv7 := Lib.hid (KBv6.out.trans (hb.mono KBv6.out.size))
  have RAv7 := Lib.hid (RAv6.out.next hb)
  have RXv4 := Lib.hid (RXv3.out.next hb)
  have RYv2 := Lib.hid (RYv1.out.next hb)
  clear hb KBv6 RAv6 RXv3 RYv1
  have RZv0 := Lib.hid hrd
  clear hrd
  go_wp2_with fail
  refine (bytes_any c1 c RXv4.out RAv7.out).mono ?_
  rintro e w' ⟨rfl, rfl⟩
  rw [same_true]
  go_wp2_with fail
  refine (bytes_any c2 c RYv2.out RAv7.out).mono ?_
  rintro e w' ⟨rfl, rfl⟩
  rw [same_true]
  go_wp2_with fail
  refine (bytes_any c3 c RZv0.out RAv7.out).mono ?_
  rintro e w' ⟨rfl, rfl⟩
  rw [same_true]
  clear RXv4 RYv2 RZv0 RAv7 R1 R2 R3 z1 z2 z3
  have hul : s.data.toList.length = s.size := by simp
  have HUL := Lib.hid hul
  clear hul
  cases hX : unhexL s.data.toList with
  | none =>
    have HX := Lib.hid hX
    clear hX
    cases hY : unbaseL SB s.data.toList with
    | none =>
      have HY := Lib.hid hY
      clear hY
      cases hZ : decL SU s.data.toList with
      | none =>
        have HZ := Lib.hid hZ
        clear hZ
        go_wp2_with fail
        refine (unhex_any s w7 (by omega)).mono ?_
        intro e w8 hg
        obtain ⟨rfl, hb⟩ := got_none hg HX.out
        clear hg
        have KBv8 := Lib.hid (KBv7.out.trans (hb.mono KBv7.out.size))
        clear hb KBv7
        go_wp2_with fail
        refine (unbase_any s w8 (by omega)).mono ?_
        intro e w9 hg
        obtain ⟨rfl, hb⟩ := got_none hg HY.out
        clear hg
        have KBv9 := Lib.hid (KBv8.out.trans (hb.mono KBv8.out.size))
        clear hb KBv8
        go_wp2_with fail
        refine (unurl_any s w9 (by omega)).mono ?_
        intro e w10 hg
        obtain ⟨rfl, hb⟩ := got_none hg HZ.out
        clear hg
        have KBv10 := Lib.hid (KBv9.out.trans (hb.mono KBv9.out.size))
        clear hb KBv9
        go_wp2_with fail
        go_ret
        exact ⟨rfl, KBv10.out⟩
      | some oz =>
        have HZ := Lib.hid hZ
        clear hZ
        go_wp2_with fail
        refine (unhex_any s w7 (by omega)).mono ?_
        intro e w8 hg
        obtain ⟨rfl, hb⟩ := got_none hg HX.out
        clear hg
        have KBv8 := Lib.hid (KBv7.out.trans (hb.mono KBv7.out.size))
        clear hb KBv7
        go_wp2_with fail
        refine (unbase_any s w8 (by omega)).mono ?_
        intro e w9 hg
        obtain ⟨rfl, hb⟩ := got_none hg HY.out
        clear hg
        have KBv9 := Lib.hid (KBv8.out.trans (hb.mono KBv8.out.size))
        clear hb KBv8
        go_wp2_with fail
        refine (unurl_any s w9 (by omega)).mono ?_
        intro e w10 hg
        obtain ⟨Z, cz, rfl, hrd, hb⟩ := got_some hg HZ.out
        clear hg
        have KBv10 := Lib.hid (KBv9.out.trans (hb.mono KBv9.out.size))
        clear hb KBv9
        have RZv0 := Lib.hid hrd
        clear hrd
        have e3 := url_unurl HZ.out
        have q3 : oz.length ≤ 4000 := by have := urlL_length SU oz; rw [e3, HUL.out] at this; omega
        have E3 := Lib.hid (str_back e3)
        clear e3
        go_wp2_with fail
        refine (url_any Z oz.length cz oz w10 RZv0.out q3).mono ?_
        rintro e w11 ⟨rfl, hb⟩
        have KBv11 := Lib.hid (KBv10.out.trans (hb.mono KBv10.out.size))
        have RZv1 := Lib.hid (RZv0.out.next hb)
        clear hb KBv10 RZv0
        rw [E3.out]
        go_wp2_with fail
        go_ret
        exact ⟨rfl, KBv11.out⟩
    | some oy =>
      have HY := Lib.hid hY
      clear hY
      cases hZ : decL SU s.data.toList with
      | none =>
        have HZ := Lib.hid hZ
        clear hZ
        go_wp2_with fail
        refine (unhex_any s w7 (by omega)).mono ?_
        intro e w8 hg
        obtain ⟨rfl, hb⟩ := got_none hg HX.out
        clear hg
        have KBv8 := Lib.hid (KBv7.out.trans (hb.mono KBv7.out.size))
        clear hb KBv7
        go_wp2_with fail
        refine (unbase_any s w8 (by omega)).mono ?_
        intro e w9 hg
        obtain ⟨Y, cy, rfl, hrd, hb⟩ := got_some hg HY.out
        clear hg
        have KBv9 := Lib.hid (KBv8.out.trans (hb.mono KBv8.out.size))
        clear hb KBv8
        have RYv0 := Lib.hid hrd
        clear hrd
        go_wp2_with fail
        refine (unurl_any s w9 (by omega)).mono ?_
        intro e w10 hg
        obtain ⟨rfl, hb⟩ := got_none hg HZ.out
        clear hg
        have KBv10 := Lib.hid (KBv9.out.trans (hb.mono KBv9.out.size))
        have RYv1 := Lib.hid (RYv0.out.next hb)
        clear hb KBv9 RYv0
        have e2 := base_unbase HY.out
        have q2 : oy.length ≤ 4000 := by have := baseL_length SB oy; rw [e2, HUL.out] at this; omega
        have E2 := Lib.hid (str_back e2)
        clear e2
        go_wp2_with fail
        refine (base_any Y oy.length cy oy w10 RYv1.out q2).mono ?_
        rintro e w11 ⟨rfl, hb⟩
        have KBv11 := Lib.hid (KBv10.out.trans (hb.mono KBv10.out.size))
        have RYv2 := Lib.hid (RYv1.out.next hb)
        clear hb KBv10 RYv1
        rw [E2.out]
        go_wp2_with fail
        go_ret
        exact ⟨rfl, KBv11.out⟩
      | some oz =>
        have HZ := Lib.hid hZ
        clear hZ
        go_wp2_with fail
        refine (unhex_any s w7 (by omega)).mono ?_
        intro e w8 hg
        obtain ⟨rfl, hb⟩ := got_none hg HX.out
        clear hg
        have KBv8 := Lib.hid (KBv7.out.trans (hb.mono KBv7.out.size))
        clear hb KBv7
        go_wp2_with fail
        refine (unbase_any s w8 (by omega)).mono ?_
        intro e w9 hg
        obtain ⟨Y, cy, rfl, hrd, hb⟩ := got_some hg HY.out
        clear hg
        have KBv9 := Lib.hid (KBv8.out.trans (hb.mono KBv8.out.size))
        clear hb KBv8
        have RYv0 := Lib.hid hrd
        clear hrd
        go_wp2_with fail
        refine (unurl_any s w9 (by omega)).mono ?_
        intro e w10 hg
        obtain ⟨Z, cz, rfl, hrd, hb⟩ := got_some hg HZ.out
        clear hg
        have KBv10 := Lib.hid (KBv9.out.trans (hb.mono KBv9.out.size))
        have RYv1 := Lib.hid (RYv0.out.next hb)
        clear hb KBv9 RYv0
        have RZv0 := Lib.hid hrd
        clear hrd
        have e2 := base_unbase HY.out
        have q2 : oy.length ≤ 4000 := by have := baseL_length SB oy; rw [e2, HUL.out] at this; omega
        have E2 := Lib.hid (str_back e2)
        clear e2
        have e3 := url_unurl HZ.out
        have q3 : oz.length ≤ 4000 := by have := urlL_length SU oz; rw [e3, HUL.out] at this; omega
        have E3 := Lib.hid (str_back e3)
        clear e3
        go_wp2_with fail
        refine (base_any Y oy.length cy oy w10 RYv1.out q2).mono ?_
        rintro e w11 ⟨rfl, hb⟩
        have KBv11 := Lib.hid (KBv10.out.trans (hb.mono KBv10.out.size))
        have RYv2 := Lib.hid (RYv1.out.next hb)
        have RZv1 := Lib.hid (RZv0.out.next hb)
        clear hb KBv10 RYv1 RZv0
        rw [E2.out]
        go_wp2_with fail
        refine (url_any Z oz.length cz oz w11 RZv1.out q3).mono ?_
        rintro e w12 ⟨rfl, hb⟩
        have KBv12 := Lib.hid (KBv11.out.trans (hb.mono KBv11.out.size))
        have RYv3 := Lib.hid (RYv2.out.next hb)
        have RZv2 := Lib.hid (RZv1.out.next hb)
        clear hb KBv11 RYv2 RZv1
        rw [E3.out]
        go_wp2_with fail
        go_ret
        exact ⟨rfl, KBv12.out⟩
  | some ox =>
    have HX := Lib.hid hX
    clear hX
    cases hY : unbaseL SB s.data.toList with
    | none =>
      have HY := Lib.hid hY
      clear hY
      cases hZ : decL SU s.data.toList with
      | none =>
        have HZ := Lib.hid hZ
        clear hZ
        go_wp2_with fail
        refine (unhex_any s w7 (by omega)).mono ?_
        intro e w8 hg
        obtain ⟨X, cx, rfl, hrd, hb⟩ := got_some hg HX.out
        clear hg
        have KBv8 := Lib.hid (KBv7.out.trans (hb.mono KBv7.out.size))
        clear hb KBv7
        have RXv0 := Lib.hid hrd
        clear hrd
        go_wp2_with fail
        refine (unbase_any s w8 (by omega)).mono ?_
        intro e w9 hg
        obtain ⟨rfl, hb⟩ := got_none hg HY.out
        clear hg
        have KBv9 := Lib.hid (KBv8.out.trans (hb.mono KBv8.out.size))
        have RXv1 := Lib.hid (RXv0.out.next hb)
        clear hb KBv8 RXv0
        go_wp2_with fail
        refine (unurl_any s w9 (by omega)).mono ?_
        intro e w10 hg
        obtain ⟨rfl, hb⟩ := got_none hg HZ.out
        clear hg
        have KBv10 := Lib.hid (KBv9.out.trans (hb.mono KBv9.out.size))
        have RXv2 := Lib.hid (RXv1.out.next hb)
        clear hb KBv9 RXv1
        have e1 := hex_unhex _ _ HX.out
        have q1 : ox.length ≤ 4000 := by have := hexL_length ox; rw [e1, HUL.out] at this; omega
        have E1 := Lib.hid (str_back e1)
        clear e1
        go_wp2_with fail
        refine (hex_any X ox.length cx ox w10 RXv2.out q1).mono ?_
        rintro e w11 ⟨rfl, hb⟩
        have KBv11 := Lib.hid (KBv10.out.trans (hb.mono KBv10.out.size))
        have RXv3 := Lib.hid (RXv2.out.next hb)
        clear hb KBv10 RXv2
        rw [E1.out]
        go_wp2_with fail
        go_ret
        exact ⟨rfl, KBv11.out⟩
      | some oz =>
        have HZ := Lib.hid hZ
        clear hZ
        go_wp2_with fail
        refine (unhex_any s w7 (by omega)).mono ?_
        intro e w8 hg
        obtain ⟨X, cx, rfl, hrd, hb⟩ := got_some hg HX.out
        clear hg
        have KBv8 := Lib.hid (KBv7.out.trans (hb.mono KBv7.out.size))
        clear hb KBv7
        have RXv0 := Lib.hid hrd
        clear hrd
        go_wp2_with fail
        refine (unbase_any s w8 (by omega)).mono ?_
        intro e w9 hg
        obtain ⟨rfl, hb⟩ := got_none hg HY.out
        clear hg
        have KBv9 := Lib.hid (KBv8.out.trans (hb.mono KBv8.out.size))
        have RXv1 := Lib.hid (RXv0.out.next hb)
        clear hb KBv8 RXv0
        go_wp2_with fail
        refine (unurl_any s w9 (by omega)).mono ?_
        intro e w10 hg
        obtain ⟨Z, cz, rfl, hrd, hb⟩ := got_some hg HZ.out
        clear hg
        have KBv10 := Lib.hid (KBv9.out.trans (hb.mono KBv9.out.size))
        have RXv2 := Lib.hid (RXv1.out.next hb)
        clear hb KBv9 RXv1
        have RZv0 := Lib.hid hrd
        clear hrd
        have e1 := hex_unhex _ _ HX.out
        have q1 : ox.length ≤ 4000 := by have := hexL_length ox; rw [e1, HUL.out] at this; omega
        have E1 := Lib.hid (str_back e1)
        clear e1
        have e3 := url_unurl HZ.out
        have q3 : oz.length ≤ 4000 := by have := urlL_length SU oz; rw [e3, HUL.out] at this; omega
        have E3 := Lib.hid (str_back e3)
        clear e3
        go_wp2_with fail
        refine (hex_any X ox.length cx ox w10 RXv2.out q1).mono ?_
        rintro e w11 ⟨rfl, hb⟩
        have KBv11 := Lib.hid (KBv10.out.trans (hb.mono KBv10.out.size))
        have RXv3 := Lib.hid (RXv2.out.next hb)
        have RZv1 := Lib.hid (RZv0.out.next hb)
        clear hb KBv10 RXv2 RZv0
        rw [E1.out]
        go_wp2_with fail
        refine (url_any Z oz.length cz oz w11 RZv1.out q3).mono ?_
        rintro e w12 ⟨rfl, hb⟩
        have KBv12 := Lib.hid (KBv11.out.trans (hb.mono KBv11.out.size))
        have RXv4 := Lib.hid (RXv3.out.next hb)
        have RZv2 := Lib.hid (RZv1.out.next hb)
        clear hb KBv11 RXv3 RZv1
        rw [E3.out]
        go_wp2_with fail
        go_ret
        exact ⟨rfl, KBv12.out⟩
    | some oy =>
      have HY := Lib.hid hY
      clear hY
      cases hZ : decL SU s.data.toList with
      | none =>
        have HZ := Lib.hid hZ
        clear hZ
        go_wp2_with fail
        refine (unhex_any s w7 (by omega)).mono ?_
        intro e w8 hg
        obtain ⟨X, cx, rfl, hrd, hb⟩ := got_some hg HX.out
        clear hg
        have KBv8 := Lib.hid (KBv7.out.trans (hb.mono KBv7.out.size))
        clear hb KBv7
        have RXv0 := Lib.hid hrd
        clear hrd
        go_wp2_with fail
        refine (unbase_any s w8 (by omega)).mono ?_
        intro e w9 hg
        obtain ⟨Y, cy, rfl, hrd, hb⟩ := got_some hg HY.out
        clear hg
        have KBv9 := Lib.hid (KBv8.out.trans (hb.mono KBv8.out.size))
        have RXv1 := Lib.hid (RXv0.out.next hb)
        clear hb KBv8 RXv0
        have RYv0 := Lib.hid hrd
        clear hrd
        go_wp2_with fail
        refine (unurl_any s w9 (by omega)).mono ?_
        intro e w10 hg
        obtain ⟨rfl, hb⟩ := got_none hg HZ.out
        clear hg
        have KBv10 := Lib.hid (KBv9.out.trans (hb.mono KBv9.out.size))
        have RXv2 := Lib.hid (RXv1.out.next hb)
        have RYv1 := Lib.hid (RYv0.out.next hb)
        clear hb KBv9 RXv1 RYv0
        have e1 := hex_unhex _ _ HX.out
        have q1 : ox.length ≤ 4000 := by have := hexL_length ox; rw [e1, HUL.out] at this; omega
        have E1 := Lib.hid (str_back e1)
        clear e1
        have e2 := base_unbase HY.out
        have q2 : oy.length ≤ 4000 := by have := baseL_length SB oy; rw [e2, HUL.out] at this; omega
        have E2 := Lib.hid (str_back e2)
        clear e2
        go_wp2_with fail
        refine (hex_any X ox.length cx ox w10 RXv2.out q1).mono ?_
        rintro e w11 ⟨rfl, hb⟩
        have KBv11 := Lib.hid (KBv10.out.trans (hb.mono KBv10.out.size))
        have RXv3 := Lib.hid (RXv2.out.next hb)
        have RYv2 := Lib.hid (RYv1.out.next hb)
        clear hb KBv10 RXv2 RYv1
        rw [E1.out]
        go_wp2_with fail
        refine (base_any Y oy.length cy oy w11 RYv2.out q2).mono ?_
        rintro e w12 ⟨rfl, hb⟩
        have KBv12 := Lib.hid (KBv11.out.trans (hb.mono KBv11.out.size))
        have RXv4 := Lib.hid (RXv3.out.next hb)
        have RYv3 := Lib.hid (RYv2.out.next hb)
        clear hb KBv11 RXv3 RYv2
        rw [E2.out]
        go_wp2_with fail
        go_ret
        exact ⟨rfl, KBv12.out⟩
      | some oz =>
        have HZ := Lib.hid hZ
        clear hZ
        go_wp2_with fail
        refine (unhex_any s w7 (by omega)).mono ?_
        intro e w8 hg
        obtain ⟨X, cx, rfl, hrd, hb⟩ := got_some hg HX.out
        clear hg
        have KBv8 := Lib.hid (KBv7.out.trans (hb.mono KBv7.out.size))
        clear hb KBv7
        have RXv0 := Lib.hid hrd
        clear hrd
        go_wp2_with fail
        refine (unbase_any s w8 (by omega)).mono ?_
        intro e w9 hg
        obtain ⟨Y, cy, rfl, hrd, hb⟩ := got_some hg HY.out
        clear hg
        have KBv9 := Lib.hid (KBv8.out.trans (hb.mono KBv8.out.size))
        have RXv1 := Lib.hid (RXv0.out.next hb)
        clear hb KBv8 RXv0
        have RYv0 := Lib.hid hrd
        clear hrd
        go_wp2_with fail
        refine (unurl_any s w9 (by omega)).mono ?_
        intro e w10 hg
        obtain ⟨Z, cz, rfl, hrd, hb⟩ := got_some hg HZ.out
        clear hg
        have KBv10 := Lib.hid (KBv9.out.trans (hb.mono KBv9.out.size))
        have RXv2 := Lib.hid (RXv1.out.next hb)
        have RYv1 := Lib.hid (RYv0.out.next hb)
        clear hb KBv9 RXv1 RYv0
        have RZv0 := Lib.hid hrd
        clear hrd
        have e1 := hex_unhex _ _ HX.out
        have q1 : ox.length ≤ 4000 := by have := hexL_length ox; rw [e1, HUL.out] at this; omega
        have E1 := Lib.hid (str_back e1)
        clear e1
        have e2 := base_unbase HY.out
        have q2 : oy.length ≤ 4000 := by have := baseL_length SB oy; rw [e2, HUL.out] at this; omega
        have E2 := Lib.hid (str_back e2)
        clear e2
        have e3 := url_unurl HZ.out
        have q3 : oz.length ≤ 4000 := by have := urlL_length SU oz; rw [e3, HUL.out] at this; omega
        have E3 := Lib.hid (str_back e3)
        clear e3
        go_wp2_with fail
        refine (hex_any X ox.length cx ox w10 RXv2.out q1).mono ?_
        rintro e w11 ⟨rfl, hb⟩
        have KBv11 := Lib.hid (KBv10.out.trans (hb.mono KBv10.out.size))
        have RXv3 := Lib.hid (RXv2.out.next hb)
        have RYv2 := Lib.hid (RYv1.out.next hb)
        have RZv1 := Lib.hid (RZv0.out.next hb)
        clear hb KBv10 RXv2 RYv1 RZv0
        rw [E1.out]
        go_wp2_with fail
        refine (base_any Y oy.length cy oy w11 RYv2.out q2).mono ?_
        rintro e w12 ⟨rfl, hb⟩
        have KBv12 := Lib.hid (KBv11.out.trans (hb.mono KBv11.out.size))
        have RXv4 := Lib.hid (RXv3.out.next hb)
        have RYv3 := Lib.hid (RYv2.out.next hb)
        have RZv2 := Lib.hid (RZv1.out.next hb)
        clear hb KBv11 RXv3 RYv2 RZv1
        rw [E2.out]
        go_wp2_with fail
        refine (url_any Z oz.length cz oz w12 RZv2.out q3).mono ?_
        rintro e w13 ⟨rfl, hb⟩
        have KBv13 := Lib.hid (KBv12.out.trans (hb.mono KBv12.out.size))
        have RXv5 := Lib.hid (RXv4.out.next hb)
        have RYv4 := Lib.hid (RYv3.out.next hb)
        have RZv3 := Lib.hid (RZv2.out.next hb)
        clear hb KBv12 RXv4 RYv3 RZv2
        rw [E3.out]
        go_wp2_with fail
        go_ret
        exact ⟨rfl, KBv13.out⟩
end Go.Proofs.Ytpgpdckjnmpdoaa
