/- The contract of the law CodecTakes. -/
import Derived.Test.YtpgpdckjnmpdoaaUn
import Derived.Test.YtpgpdckjnmpdoaaAlive
import Derived.Test.YtpgpdckjnmpdoaaRefV
namespace Go.Proofs.Ytpgpdckjnmpdoaa
open Go.RowKit

theorem ta42 (x : Value) (w : World) : (Instr.typeAssert (.iface 42 x) 28 42 true).run Try.prog w = .ok (.tuple #[x, .bool true]) w := by kernel_rfl

set_option maxHeartbeats 400000 in
theorem num_form (w : World) : Calls Try.prog 27 #[.iface 42 (.int .i64 2)] w fun e w' => e = .returned (.int .i64 2) ∧ w = w' := by
  have k := ta42
  go_enter Try.func27, Try.ntmps27
  go_wp2_with fail
  go_ret
  exact ⟨rfl, rfl⟩

set_option maxHeartbeats 400000 in
theorem is_form (w : World) : Calls Try.prog 23 #[.iface 42 (.int .i64 2), .int .i64 2] w fun e w' => e = .returned (.bool true) ∧ w = w' := by
  go_enter Try.func23, Try.ntmps23
  go_wp2_with fail
  refine (num_form w).mono ?_
  rintro e w' ⟨rfl, rfl⟩
  go_wp2_with fail
  go_ret
  exact ⟨rfl, rfl⟩

set_option maxHeartbeats 400000 in
theorem same_none (w : World) : Calls Try.prog 15 #[.slice none 0 0, .iface 42 (.int .i64 2), .slice none 0 0, .bool false] w fun e w' => e = .returned (.bool true) ∧ w = w' := by
  go_enter Try.func15, Try.ntmps15
  go_wp2_with fail
  refine (is_form w).mono ?_
  rintro e w' ⟨rfl, rfl⟩
  go_wp2_with fail
  go_ret
  exact ⟨rfl, rfl⟩

set_option maxHeartbeats 400000 in
theorem same_some {w : World} {B B' : Nat} {A A' : Option Addr} {n m : Nat} (c c' : Nat) {l : List UInt8} (h : Rd w B A n (us l)) (h' : Rd w B' A' m (us l)) :
    Calls Try.prog 15 #[.slice A n c, .nilIface, .slice A' m c', .bool true] w fun e w' => e = .returned (.bool true) ∧ w = w' := by
  have H := Lib.hid h
  have H' := Lib.hid h'
  clear h h'
  go_enter Try.func15, Try.ntmps15
  go_wp2_with fail
  refine (bytes_any c c' H.out H'.out).mono ?_
  rintro e w' ⟨rfl, rfl⟩
  rw [show (l == l) = true by simp]
  go_wp2_with fail
  go_ret
  exact ⟨rfl, rfl⟩

theorem got2_some {w w' : World} {r : Option (List UInt8)} {o : List UInt8} {e : Ending} (h : Got2 w r e w') (hr : r = some o) :
    ∃ A c, e = .returned (.tuple #[.slice A o.length c, .bool true]) ∧ Rd w' w'.heap.size A o.length (us o) ∧ Below w.heap.size w w' := by
  rw [hr] at h
  obtain ⟨v, rfl, hG⟩ := h
  obtain ⟨A, c, rfl⟩ := hG.own.slice
  exact ⟨A, c, rfl, hG.own.rd.2, hG.below⟩
theorem got2_none {w w' : World} {r : Option (List UInt8)} {e : Ending} (h : Got2 w r e w') (hr : r = none) :
    e = .returned (.tuple #[.slice none 0 0, .bool false]) ∧ Below w.heap.size w w' := by
  rw [hr] at h
  exact h
theorem gotc_some {w w' : World} {r : Option (List UInt8)} {o : List UInt8} {e : Ending} (h : Got w r e w') (hr : r = some o) :
    ∃ A c, e = .returned (.tuple #[.slice A o.length c, .nilIface]) ∧ Rd w' w'.heap.size A o.length (us o) ∧ Below w.heap.size w w' := by
  rw [hr] at h
  obtain ⟨v, rfl, hG⟩ := h
  obtain ⟨A, c, rfl⟩ := hG.own.slice
  exact ⟨A, c, rfl, hG.own.rd.2, hG.below⟩
theorem gotc_none {w w' : World} {r : Option (List UInt8)} {e : Ending} (h : Got w r e w') (hr : r = none) :
    e = .returned (.tuple #[.slice none 0 0, .iface 42 (.int .i64 2)]) ∧ Below w.heap.size w w' := by
  rw [hr] at h
  exact h

set_option maxHeartbeats 400000 in
theorem takes_long (s : ByteArray) (w : World) (h : 400 < s.size) (hs : s.size ≤ 9223372036854775807) :
    Calls Try.prog 4 #[.string s] w fun e w' => e = .returned (.bool true) ∧ Below w.heap.size w w' := by
  go_enter Try.func4, Try.ntmps4
  go_wp2_with fail
  refine (alive_true _).mono ?_
  rintro e w1 ⟨rfl, hb⟩
  have HB := Lib.hid hb
  clear hb
  go_wp2_with fail
  go_ret
  exact ⟨rfl, HB.out⟩
set_option maxHeartbeats 1000000 in
theorem takes_any (s : ByteArray) (w : World) (hs : s.size ≤ 400) :
    Calls Try.prog 4 #[.string s] w fun e w' => e = .returned (.bool true) ∧ Below w.heap.size w w' := by
  go_enter Try.func4, Try.ntmps4
  go_wp2_with fail
  refine (alive_true _).mono ?_
  rintro e w1 ⟨rfl, hb⟩
  have KB1 := Lib.hid hb
  clear hb
  cases hO : unhexL s.data.toList with
  | none =>
    have O0 := Lib.hid hO
    have O0r := Lib.hid hO
    clear hO
    go_wp2_with fail
    refine (unhex_any s w1 (by omega)).mono ?_
    intro e w2 hg
    obtain ⟨rfl, hb⟩ := gotc_none hg O0.out
    have KB2 := Lib.hid (KB1.out.trans (hb.mono KB1.out.size))
    clear hg hb KB1
    go_wp2_with fail
    refine (refunhex_any s w2 (by omega)).mono ?_
    intro e w3 hg
    obtain ⟨rfl, hb⟩ := got2_none hg O0r.out
    have KB3 := Lib.hid (KB2.out.trans (hb.mono KB2.out.size))
    clear hg hb KB2
    go_wp2_with fail
    refine (same_none w3).mono ?_
    rintro e w' ⟨rfl, rfl⟩
    cases hO : unbaseL SB s.data.toList with
    | none =>
      have O1 := Lib.hid hO
      have O1r := Lib.hid (show refUn (TS false) (txt false) s.data.toList = none by rw [← hO]; exact (unbase_ref s.data.toList).symm)
      clear hO
      go_wp2_with fail
      refine (unbase_any s w3 (by omega)).mono ?_
      intro e w4 hg
      obtain ⟨rfl, hb⟩ := gotc_none hg O1.out
      have KB4 := Lib.hid (KB3.out.trans (hb.mono KB3.out.size))
      clear hg hb KB3
      go_wp2_with fail
      refine (refunbase_any false s w4 (by omega)).mono ?_
      intro e w5 hg
      obtain ⟨rfl, hb⟩ := got2_none hg O1r.out
      have KB5 := Lib.hid (KB4.out.trans (hb.mono KB4.out.size))
      clear hg hb KB4
      go_wp2_with fail
      refine (same_none w5).mono ?_
      rintro e w' ⟨rfl, rfl⟩
      cases hO : decL SU s.data.toList with
      | none =>
        have O2 := Lib.hid hO
        have O2r := Lib.hid (show refUn (TS true) (txt true) s.data.toList = none by rw [← hO]; exact (unurl_ref s.data.toList).symm)
        clear hO
        go_wp2_with fail
        refine (unurl_any s w5 (by omega)).mono ?_
        intro e w6 hg
        obtain ⟨rfl, hb⟩ := gotc_none hg O2.out
        have KB6 := Lib.hid (KB5.out.trans (hb.mono KB5.out.size))
        clear hg hb KB5
        go_wp2_with fail
        refine (refunbase_any true s w6 (by omega)).mono ?_
        intro e w7 hg
        obtain ⟨rfl, hb⟩ := got2_none hg O2r.out
        have KB7 := Lib.hid (KB6.out.trans (hb.mono KB6.out.size))
        clear hg hb KB6
        go_wp2_with fail
        refine (same_none w7).mono ?_
        rintro e w' ⟨rfl, rfl⟩
        go_wp2_with fail
        go_ret
        exact ⟨rfl, KB7.out⟩
      | some o2 =>
        have O2 := Lib.hid hO
        have O2r := Lib.hid (show refUn (TS true) (txt true) s.data.toList = some o2 by rw [← hO]; exact (unurl_ref s.data.toList).symm)
        clear hO
        go_wp2_with fail
        refine (unurl_any s w5 (by omega)).mono ?_
        intro e w6 hg
        obtain ⟨X2, cx2, rfl, hrd, hb⟩ := gotc_some hg O2.out
        have RX2 := Lib.hid hrd
        clear hrd
        have KB6 := Lib.hid (KB5.out.trans (hb.mono KB5.out.size))
        clear hg hb KB5
        go_wp2_with fail
        refine (refunbase_any true s w6 (by omega)).mono ?_
        intro e w7 hg
        obtain ⟨Y2, cy2, rfl, hrd, hb⟩ := got2_some hg O2r.out
        have RY2 := Lib.hid hrd
        have RZ2 := Lib.hid (RX2.out.next hb)
        clear hrd
        have KB7 := Lib.hid (KB6.out.trans (hb.mono KB6.out.size))
        clear hg hb KB6
        go_wp2_with fail
        refine (same_some cx2 cy2 RZ2.out RY2.out).mono ?_
        rintro e w' ⟨rfl, rfl⟩
        go_wp2_with fail
        go_ret
        exact ⟨rfl, KB7.out⟩
    | some o1 =>
      have O1 := Lib.hid hO
      have O1r := Lib.hid (show refUn (TS false) (txt false) s.data.toList = some o1 by rw [← hO]; exact (unbase_ref s.data.toList).symm)
      clear hO
      go_wp2_with fail
      refine (unbase_any s w3 (by omega)).mono ?_
      intro e w4 hg
      obtain ⟨X1, cx1, rfl, hrd, hb⟩ := gotc_some hg O1.out
      have RX1 := Lib.hid hrd
      clear hrd
      have KB4 := Lib.hid (KB3.out.trans (hb.mono KB3.out.size))
      clear hg hb KB3
      go_wp2_with fail
      refine (refunbase_any false s w4 (by omega)).mono ?_
      intro e w5 hg
      obtain ⟨Y1, cy1, rfl, hrd, hb⟩ := got2_some hg O1r.out
      have RY1 := Lib.hid hrd
      have RZ1 := Lib.hid (RX1.out.next hb)
      clear hrd
      have KB5 := Lib.hid (KB4.out.trans (hb.mono KB4.out.size))
      clear hg hb KB4
      go_wp2_with fail
      refine (same_some cx1 cy1 RZ1.out RY1.out).mono ?_
      rintro e w' ⟨rfl, rfl⟩
      cases hO : decL SU s.data.toList with
      | none =>
        have O2 := Lib.hid hO
        have O2r := Lib.hid (show refUn (TS true) (txt true) s.data.toList = none by rw [← hO]; exact (unurl_ref s.data.toList).symm)
        clear hO
        go_wp2_with fail
        refine (unurl_any s w5 (by omega)).mono ?_
        intro e w6 hg
        obtain ⟨rfl, hb⟩ := gotc_none hg O2.out
        have KB6 := Lib.hid (KB5.out.trans (hb.mono KB5.out.size))
        clear hg hb KB5
        go_wp2_with fail
        refine (refunbase_any true s w6 (by omega)).mono ?_
        intro e w7 hg
        obtain ⟨rfl, hb⟩ := got2_none hg O2r.out
        have KB7 := Lib.hid (KB6.out.trans (hb.mono KB6.out.size))
        clear hg hb KB6
        go_wp2_with fail
        refine (same_none w7).mono ?_
        rintro e w' ⟨rfl, rfl⟩
        go_wp2_with fail
        go_ret
        exact ⟨rfl, KB7.out⟩
      | some o2 =>
        have O2 := Lib.hid hO
        have O2r := Lib.hid (show refUn (TS true) (txt true) s.data.toList = some o2 by rw [← hO]; exact (unurl_ref s.data.toList).symm)
        clear hO
        go_wp2_with fail
        refine (unurl_any s w5 (by omega)).mono ?_
        intro e w6 hg
        obtain ⟨X2, cx2, rfl, hrd, hb⟩ := gotc_some hg O2.out
        have RX2 := Lib.hid hrd
        clear hrd
        have KB6 := Lib.hid (KB5.out.trans (hb.mono KB5.out.size))
        clear hg hb KB5
        go_wp2_with fail
        refine (refunbase_any true s w6 (by omega)).mono ?_
        intro e w7 hg
        obtain ⟨Y2, cy2, rfl, hrd, hb⟩ := got2_some hg O2r.out
        have RY2 := Lib.hid hrd
        have RZ2 := Lib.hid (RX2.out.next hb)
        clear hrd
        have KB7 := Lib.hid (KB6.out.trans (hb.mono KB6.out.size))
        clear hg hb KB6
        go_wp2_with fail
        refine (same_some cx2 cy2 RZ2.out RY2.out).mono ?_
        rintro e w' ⟨rfl, rfl⟩
        go_wp2_with fail
        go_ret
        exact ⟨rfl, KB7.out⟩
  | some o0 =>
    have O0 := Lib.hid hO
    have O0r := Lib.hid hO
    clear hO
    go_wp2_with fail
    refine (unhex_any s w1 (by omega)).mono ?_
    intro e w2 hg
    obtain ⟨X0, cx0, rfl, hrd, hb⟩ := gotc_some hg O0.out
    have RX0 := Lib.hid hrd
    clear hrd
    have KB2 := Lib.hid (KB1.out.trans (hb.mono KB1.out.size))
    clear hg hb KB1
    go_wp2_with fail
    refine (refunhex_any s w2 (by omega)).mono ?_
    intro e w3 hg
    obtain ⟨Y0, cy0, rfl, hrd, hb⟩ := got2_some hg O0r.out
    have RY0 := Lib.hid hrd
    have RZ0 := Lib.hid (RX0.out.next hb)
    clear hrd
    have KB3 := Lib.hid (KB2.out.trans (hb.mono KB2.out.size))
    clear hg hb KB2
    go_wp2_with fail
    refine (same_some cx0 cy0 RZ0.out RY0.out).mono ?_
    rintro e w' ⟨rfl, rfl⟩
    cases hO : unbaseL SB s.data.toList with
    | none =>
      have O1 := Lib.hid hO
      have O1r := Lib.hid (show refUn (TS false) (txt false) s.data.toList = none by rw [← hO]; exact (unbase_ref s.data.toList).symm)
      clear hO
      go_wp2_with fail
      refine (unbase_any s w3 (by omega)).mono ?_
      intro e w4 hg
      obtain ⟨rfl, hb⟩ := gotc_none hg O1.out
      have KB4 := Lib.hid (KB3.out.trans (hb.mono KB3.out.size))
      clear hg hb KB3
      go_wp2_with fail
      refine (refunbase_any false s w4 (by omega)).mono ?_
      intro e w5 hg
      obtain ⟨rfl, hb⟩ := got2_none hg O1r.out
      have KB5 := Lib.hid (KB4.out.trans (hb.mono KB4.out.size))
      clear hg hb KB4
      go_wp2_with fail
      refine (same_none w5).mono ?_
      rintro e w' ⟨rfl, rfl⟩
      cases hO : decL SU s.data.toList with
      | none =>
        have O2 := Lib.hid hO
        have O2r := Lib.hid (show refUn (TS true) (txt true) s.data.toList = none by rw [← hO]; exact (unurl_ref s.data.toList).symm)
        clear hO
        go_wp2_with fail
        refine (unurl_any s w5 (by omega)).mono ?_
        intro e w6 hg
        obtain ⟨rfl, hb⟩ := gotc_none hg O2.out
        have KB6 := Lib.hid (KB5.out.trans (hb.mono KB5.out.size))
        clear hg hb KB5
        go_wp2_with fail
        refine (refunbase_any true s w6 (by omega)).mono ?_
        intro e w7 hg
        obtain ⟨rfl, hb⟩ := got2_none hg O2r.out
        have KB7 := Lib.hid (KB6.out.trans (hb.mono KB6.out.size))
        clear hg hb KB6
        go_wp2_with fail
        refine (same_none w7).mono ?_
        rintro e w' ⟨rfl, rfl⟩
        go_wp2_with fail
        go_ret
        exact ⟨rfl, KB7.out⟩
      | some o2 =>
        have O2 := Lib.hid hO
        have O2r := Lib.hid (show refUn (TS true) (txt true) s.data.toList = some o2 by rw [← hO]; exact (unurl_ref s.data.toList).symm)
        clear hO
        go_wp2_with fail
        refine (unurl_any s w5 (by omega)).mono ?_
        intro e w6 hg
        obtain ⟨X2, cx2, rfl, hrd, hb⟩ := gotc_some hg O2.out
        have RX2 := Lib.hid hrd
        clear hrd
        have KB6 := Lib.hid (KB5.out.trans (hb.mono KB5.out.size))
        clear hg hb KB5
        go_wp2_with fail
        refine (refunbase_any true s w6 (by omega)).mono ?_
        intro e w7 hg
        obtain ⟨Y2, cy2, rfl, hrd, hb⟩ := got2_some hg O2r.out
        have RY2 := Lib.hid hrd
        have RZ2 := Lib.hid (RX2.out.next hb)
        clear hrd
        have KB7 := Lib.hid (KB6.out.trans (hb.mono KB6.out.size))
        clear hg hb KB6
        go_wp2_with fail
        refine (same_some cx2 cy2 RZ2.out RY2.out).mono ?_
        rintro e w' ⟨rfl, rfl⟩
        go_wp2_with fail
        go_ret
        exact ⟨rfl, KB7.out⟩
    | some o1 =>
      have O1 := Lib.hid hO
      have O1r := Lib.hid (show refUn (TS false) (txt false) s.data.toList = some o1 by rw [← hO]; exact (unbase_ref s.data.toList).symm)
      clear hO
      go_wp2_with fail
      refine (unbase_any s w3 (by omega)).mono ?_
      intro e w4 hg
      obtain ⟨X1, cx1, rfl, hrd, hb⟩ := gotc_some hg O1.out
      have RX1 := Lib.hid hrd
      clear hrd
      have KB4 := Lib.hid (KB3.out.trans (hb.mono KB3.out.size))
      clear hg hb KB3
      go_wp2_with fail
      refine (refunbase_any false s w4 (by omega)).mono ?_
      intro e w5 hg
      obtain ⟨Y1, cy1, rfl, hrd, hb⟩ := got2_some hg O1r.out
      have RY1 := Lib.hid hrd
      have RZ1 := Lib.hid (RX1.out.next hb)
      clear hrd
      have KB5 := Lib.hid (KB4.out.trans (hb.mono KB4.out.size))
      clear hg hb KB4
      go_wp2_with fail
      refine (same_some cx1 cy1 RZ1.out RY1.out).mono ?_
      rintro e w' ⟨rfl, rfl⟩
      cases hO : decL SU s.data.toList with
      | none =>
        have O2 := Lib.hid hO
        have O2r := Lib.hid (show refUn (TS true) (txt true) s.data.toList = none by rw [← hO]; exact (unurl_ref s.data.toList).symm)
        clear hO
        go_wp2_with fail
        refine (unurl_any s w5 (by omega)).mono ?_
        intro e w6 hg
        obtain ⟨rfl, hb⟩ := gotc_none hg O2.out
        have KB6 := Lib.hid (KB5.out.trans (hb.mono KB5.out.size))
        clear hg hb KB5
        go_wp2_with fail
        refine (refunbase_any true s w6 (by omega)).mono ?_
        intro e w7 hg
        obtain ⟨rfl, hb⟩ := got2_none hg O2r.out
        have KB7 := Lib.hid (KB6.out.trans (hb.mono KB6.out.size))
        clear hg hb KB6
        go_wp2_with fail
        refine (same_none w7).mono ?_
        rintro e w' ⟨rfl, rfl⟩
        go_wp2_with fail
        go_ret
        exact ⟨rfl, KB7.out⟩
      | some o2 =>
        have O2 := Lib.hid hO
        have O2r := Lib.hid (show refUn (TS true) (txt true) s.data.toList = some o2 by rw [← hO]; exact (unurl_ref s.data.toList).symm)
        clear hO
        go_wp2_with fail
        refine (unurl_any s w5 (by omega)).mono ?_
        intro e w6 hg
        obtain ⟨X2, cx2, rfl, hrd, hb⟩ := gotc_some hg O2.out
        have RX2 := Lib.hid hrd
        clear hrd
        have KB6 := Lib.hid (KB5.out.trans (hb.mono KB5.out.size))
        clear hg hb KB5
        go_wp2_with fail
        refine (refunbase_any true s w6 (by omega)).mono ?_
        intro e w7 hg
        obtain ⟨Y2, cy2, rfl, hrd, hb⟩ := got2_some hg O2r.out
        have RY2 := Lib.hid hrd
        have RZ2 := Lib.hid (RX2.out.next hb)
        clear hrd
        have KB7 := Lib.hid (KB6.out.trans (hb.mono KB6.out.size))
        clear hg hb KB6
        go_wp2_with fail
        refine (same_some cx2 cy2 RZ2.out RY2.out).mono ?_
        rintro e w' ⟨rfl, rfl⟩
        go_wp2_with fail
        go_ret
        exact ⟨rfl, KB7.out⟩
end Go.Proofs.Ytpgpdckjnmpdoaa
