/- Contract of the law DigestTakes. -/
import Derived.Test.YtbklcelnnmhgkaaDoorTkr
namespace Go.Proofs.YtbklcelnnmhgkaaDoor
open Go.RowKit

theorem load_row_g {P : Program} {ops : Array Oper} {rest : List Oper} {o : Oper} {a : Act} {Q : Exit → Act → World → Prop} {w : World} (hw : Region.wanted o (yielded ops a.tmps) = true) (ty : TypeId) (x : Operand) (ho : o.op = .load ty x) (g : Nat) (hx : a.eval x = .pointer (some ⟨g, 0, none⟩)) (t : TypeId) (cs : Array Value) (d : TypeDesc)
    (hg : Row w g cs t) (hu : P.underlying ty = some d) (hd : (match d with | .struct _ | .array _ _ => true | _ => false) = true) (hi : (P.info? ty).map (·.size) = some cs.size)
    (h : wpList P ops Q rest (a.put o.dst (.agg cs)) w) : wpList P ops Q (o :: rest) a w :=
  wpList_step fun _ hK => step_load_g hw ty x ho g hx t cs d hg hu hd hi (hK _ _ h)

set_option maxHeartbeats 400000 in
theorem takes_long (s : ByteArray) (w : World) (ht : Tabs w) (hn : 300 < s.size) :
    Calls Tryd.prog 4 #[.string s] w fun e w' => e = .returned (.bool true) ∧ Below w.heap.size w w' := by
  have HT := Lib.hid ht
  clear ht
  have hd : decide ((300 : Int) < (s.size : Int)) = true := decide_eq_true (by omega)
  clear hn
  set_option maxRecDepth 20000 in go_enter Tryd.func4, Tryd.ntmps4
  go_wp2_with fail
  refine (alive_true w HT.out).mono ?_
  rintro e w1 ⟨rfl, hb1⟩
  have HB1 := Lib.hid hb1
  clear hb1
  go_wp2_with fail
  go_ret
  exact ⟨rfl, HB1.out⟩

set_option maxRecDepth 20000 in
set_option maxHeartbeats 2000000 in
theorem takes_any (s : ByteArray) (w : World) (ht : Tabs w) (hn : s.size ≤ 300) :
    Calls Tryd.prog 4 #[.string s] w fun e w' => e = .returned (.bool true) ∧ Below w.heap.size w w' := by
  have HT := Lib.hid ht
  have HN := Lib.hid (show s.size ≤ 8000 by omega)
  have hd : decide ((300 : Int) < (s.size : Int)) = false := decide_eq_false (by omega)
  have hsz : ¬ 9223372036854775807 < 7 + s.size := by omega
  clear ht hn
  obtain ⟨R, HR⟩ : ∃ R, RowKit.Hid (isP s = R) := ⟨_, Lib.hid rfl⟩
  obtain ⟨G, HG⟩ : ∃ G, RowKit.Hid (isS s = G) := ⟨_, Lib.hid rfl⟩
  obtain ⟨D, HD⟩ : ∃ D, RowKit.Hid (digF s = D) := ⟨_, Lib.hid rfl⟩
  obtain ⟨SH, HSH⟩ : ∃ D, RowKit.Hid (shF s = D) := ⟨_, Lib.hid rfl⟩
  obtain ⟨LG, HLG⟩ : ∃ D, RowKit.Hid (lgF s = D) := ⟨_, Lib.hid rfl⟩
  have HDL : RowKit.Hid (D.length = 32) := Lib.hid (by rw [← HD.out]; exact dig_len s)
  have HV : RowKit.Hid ((u8s D).size = 32) := Lib.hid (by rw [u8s_size, HDL.out])
  set_option maxRecDepth 20000 in go_enter Tryd.func4, Tryd.ntmps4
  go_wp2_with fail
  refine (alive_true w HT.out).mono ?_
  rintro e w1 ⟨rfl, hb1⟩
  have HB1 := Lib.hid hb1
  clear hb1
  go_wp2_with fail
  refine (ris_any s w1).mono ?_
  rintro e w1' ⟨rfl, rfl⟩
  rw [show isF s.data.toList = R by rw [is_parse]; exact HR.out]
  go_wp2_with fail
  refine (parse_g s w1 HN.out).mono ?_
  rintro e w2 ⟨rfl, hb2⟩
  rw [HD.out, HR.out]
  have HB2 := Lib.hid (HB1.out.trans (hb2.mono HB1.out.size))
  clear hb2 HB1
  go_wp2_with (with_reducible refine halt_alloc 24 ?_)
  refine Lib.hid ?_
  refine alloc_row rfl 24 rfl _ 32 info25 ?_
  intro w3 r3 g3 s3
  refine store_row rfl 24 _ _ rfl w2.heap.size (u8s D) rfl rfl 24 _ r3 32 size25 HV.out (u8s_size _) (u8s_one _) ?_
  intro w4 r4 g4 s4
  have R4 := Lib.hid r4
  have HB4 := Lib.hid ((HB2.out.grown g3 HB2.out.size (fun _ h => by cases h)).grown g4 (by have := HB2.out.size; omega) (fun k h => by injection h with h; have := HB2.out.size; omega))
  clear r3 g3 s3 r4 g4 s4 HB2
  go_wp2_with fail
  refine (short_g s w4 HN.out).mono ?_
  rintro e w5 ⟨rfl, hb5⟩
  rw [HSH.out, HR.out]
  have R5 := Lib.hid (R4.out.below hb5 R4.out.lt)
  have HB5 := Lib.hid (HB4.out.trans (hb5.mono HB4.out.size))
  clear hb5 HB4 R4
  go_wp2_with fail
  refine (long_g s w5 HN.out).mono ?_
  rintro e w6 ⟨rfl, hb6⟩
  rw [HLG.out, HG.out]
  have R6 := Lib.hid (R5.out.below hb6 R5.out.lt)
  have HB6 := Lib.hid (HB5.out.trans (hb6.mono HB5.out.size))
  clear hb6 HB5 R5
  generalize w2.heap.size = g at R6 ⊢
  go_upto_region 9 with fail
  refine region9t _ w6 _ s R G HR.out HG.out HN.out rfl rfl rfl (.pointer (some ⟨g, 0, none⟩)) (.string SH) (.string LG) rfl rfl rfl rfl rfl rfl (fun _ _ _ _ _ h => h) ?_
  intro a' w7 hs' hd' f0 f3 f4 f5 f6 f7 f8 f9 f55 hb7
  have R7 := Lib.hid (R6.out.below hb7 R6.out.lt)
  have HB7 := Lib.hid (HB6.out.trans (hb7.mono HB6.out.size))
  clear hb7 HB6 R6
  rw [act104 a' hs' hd', f0, f3, f4, f5, f6, f7, f8, f9, f55]
  clear hs' hd' f0 f3 f4 f5 f6 f7 f8 f9 f55
  generalize a'.eval (.tmp 1) = u1
  generalize a'.eval (.tmp 2) = u2
  generalize a'.eval (.tmp 10) = u10
  generalize a'.eval (.tmp 11) = u11
  generalize a'.eval (.tmp 12) = u12
  generalize a'.eval (.tmp 13) = u13
  generalize a'.eval (.tmp 14) = u14
  generalize a'.eval (.tmp 15) = u15
  generalize a'.eval (.tmp 16) = u16
  generalize a'.eval (.tmp 17) = u17
  generalize a'.eval (.tmp 18) = u18
  generalize a'.eval (.tmp 19) = u19
  generalize a'.eval (.tmp 20) = u20
  generalize a'.eval (.tmp 21) = u21
  generalize a'.eval (.tmp 22) = u22
  generalize a'.eval (.tmp 23) = u23
  generalize a'.eval (.tmp 24) = u24
  generalize a'.eval (.tmp 25) = u25
  generalize a'.eval (.tmp 26) = u26
  generalize a'.eval (.tmp 27) = u27
  generalize a'.eval (.tmp 28) = u28
  generalize a'.eval (.tmp 29) = u29
  generalize a'.eval (.tmp 30) = u30
  generalize a'.eval (.tmp 31) = u31
  generalize a'.eval (.tmp 32) = u32
  generalize a'.eval (.tmp 33) = u33
  generalize a'.eval (.tmp 34) = u34
  generalize a'.eval (.tmp 35) = u35
  generalize a'.eval (.tmp 36) = u36
  generalize a'.eval (.tmp 37) = u37
  generalize a'.eval (.tmp 38) = u38
  generalize a'.eval (.tmp 39) = u39
  generalize a'.eval (.tmp 40) = u40
  generalize a'.eval (.tmp 41) = u41
  generalize a'.eval (.tmp 42) = u42
  generalize a'.eval (.tmp 43) = u43
  generalize a'.eval (.tmp 44) = u44
  generalize a'.eval (.tmp 45) = u45
  generalize a'.eval (.tmp 46) = u46
  generalize a'.eval (.tmp 47) = u47
  generalize a'.eval (.tmp 48) = u48
  generalize a'.eval (.tmp 49) = u49
  generalize a'.eval (.tmp 50) = u50
  generalize a'.eval (.tmp 51) = u51
  generalize a'.eval (.tmp 52) = u52
  generalize a'.eval (.tmp 53) = u53
  generalize a'.eval (.tmp 54) = u54
  generalize a'.eval (.tmp 56) = u56
  generalize a'.eval (.tmp 57) = u57
  generalize a'.eval (.tmp 58) = u58
  generalize a'.eval (.tmp 59) = u59
  generalize a'.eval (.tmp 60) = u60
  generalize a'.eval (.tmp 61) = u61
  generalize a'.eval (.tmp 62) = u62
  generalize a'.eval (.tmp 63) = u63
  generalize a'.eval (.tmp 64) = u64
  generalize a'.eval (.tmp 65) = u65
  generalize a'.eval (.tmp 66) = u66
  generalize a'.eval (.tmp 67) = u67
  generalize a'.eval (.tmp 68) = u68
  generalize a'.eval (.tmp 69) = u69
  generalize a'.eval (.tmp 70) = u70
  generalize a'.eval (.tmp 71) = u71
  generalize a'.eval (.tmp 72) = u72
  generalize a'.eval (.tmp 73) = u73
  generalize a'.eval (.tmp 74) = u74
  generalize a'.eval (.tmp 75) = u75
  generalize a'.eval (.tmp 76) = u76
  generalize a'.eval (.tmp 77) = u77
  generalize a'.eval (.tmp 78) = u78
  generalize a'.eval (.tmp 79) = u79
  generalize a'.eval (.tmp 80) = u80
  generalize a'.eval (.tmp 81) = u81
  generalize a'.eval (.tmp 82) = u82
  generalize a'.eval (.tmp 83) = u83
  generalize a'.eval (.tmp 84) = u84
  generalize a'.eval (.tmp 85) = u85
  generalize a'.eval (.tmp 86) = u86
  generalize a'.eval (.tmp 87) = u87
  generalize a'.eval (.tmp 88) = u88
  generalize a'.eval (.tmp 89) = u89
  generalize a'.eval (.tmp 90) = u90
  generalize a'.eval (.tmp 91) = u91
  generalize a'.eval (.tmp 92) = u92
  generalize a'.eval (.tmp 93) = u93
  generalize a'.eval (.tmp 94) = u94
  generalize a'.eval (.tmp 95) = u95
  generalize a'.eval (.tmp 96) = u96
  generalize a'.eval (.tmp 97) = u97
  generalize a'.eval (.tmp 98) = u98
  generalize a'.eval (.tmp 99) = u99
  generalize a'.eval (.tmp 100) = u100
  generalize a'.eval (.tmp 101) = u101
  generalize a'.eval (.tmp 102) = u102
  generalize a'.eval (.tmp 103) = u103
  clear a'
  have q1 : errV true = .nilIface := rfl
  have q2 : errV false = .iface 37 (.int .i64 2) := rfl
  cases G with
  | true =>
    have hl := long_yes HG.out
    rw [HLG.out] at hl
    subst hl
    clear HLG
    cases R with
    | true =>
      have hy := dig_yes HR.out
      rw [HSH.out, HD.out] at hy
      obtain ⟨hname, hsh, h7⟩ := hy
      subst hsh
      have HNM := Lib.hid hname
      clear hname HSH
      go_wp2_with (with_reducible refine halt_load 24 ?_)
      refine Lib.hid ?_
      refine load_row_g rfl 24 _ rfl g rfl 24 (u8s D) _ R7.out Tryd.underlying24 rfl (by rw [size25, HV.out]) ?_
      go_wp2_with fail
      refine (name_any D HDL.out w7).mono ?_
      rintro e w8 ⟨rfl, hb8⟩
      rw [HNM.out]
      have HB8 := Lib.hid (HB7.out.trans (hb8.mono HB7.out.size))
      clear hb8 HB7
      go_wp2_with fail
      go_ret
      exact ⟨rfl, HB8.out⟩
    | false =>
      have hy := dig_no HR.out
      rw [HSH.out, HD.out] at hy
      obtain ⟨hdz, hsh⟩ := hy
      subst hsh hdz
      clear HSH HD
      have hsame := same25 zero32 rfl
      go_wp2_with (with_reducible refine halt_load 24 ?_)
      refine Lib.hid ?_
      refine load_row rfl 24 _ rfl g rfl 24 (u8s zero32) _ R7.out Tryd.underlying24 rfl 32 size25 rfl ?_
      intro _
      refine build_row rfl 24 #[] rfl (u8s zero32) (by simpa using built24) ?_
      go_wp2_with fail
      refine (is_form w7).mono ?_
      rintro e w8 ⟨rfl, rfl⟩
      go_wp2_with fail
      refine (is_form w7).mono ?_
      rintro e w8 ⟨rfl, rfl⟩
      go_wp2_with fail
      go_ret
      exact ⟨rfl, HB7.out⟩
  | false =>
    have hl := long_no HG.out
    rw [HLG.out] at hl
    subst hl
    clear HLG
    go_wp2_with fail
    refine (is_form w7).mono ?_
    rintro e w8 ⟨rfl, rfl⟩
    cases R with
    | true =>
      have hy := dig_yes HR.out
      rw [HSH.out, HD.out] at hy
      obtain ⟨hname, hsh, h7⟩ := hy
      subst hsh
      have HNM := Lib.hid hname
      clear hname HSH
      go_wp2_with (with_reducible refine halt_load 24 ?_)
      refine Lib.hid ?_
      refine load_row_g rfl 24 _ rfl g rfl 24 (u8s D) _ R7.out Tryd.underlying24 rfl (by rw [size25, HV.out]) ?_
      go_wp2_with fail
      refine (name_any D HDL.out w7).mono ?_
      rintro e w8 ⟨rfl, hb8⟩
      rw [HNM.out]
      have HB8 := Lib.hid (HB7.out.trans (hb8.mono HB7.out.size))
      clear hb8 HB7
      go_wp2_with fail
      go_ret
      exact ⟨rfl, HB8.out⟩
    | false =>
      have hy := dig_no HR.out
      rw [HSH.out, HD.out] at hy
      obtain ⟨hdz, hsh⟩ := hy
      subst hsh hdz
      clear HSH HD
      have hsame := same25 zero32 rfl
      go_wp2_with (with_reducible refine halt_load 24 ?_)
      refine Lib.hid ?_
      refine load_row rfl 24 _ rfl g rfl 24 (u8s zero32) _ R7.out Tryd.underlying24 rfl 32 size25 rfl ?_
      intro _
      refine build_row rfl 24 #[] rfl (u8s zero32) (by simpa using built24) ?_
      go_wp2_with fail
      refine (is_form w7).mono ?_
      rintro e w8 ⟨rfl, rfl⟩
      go_wp2_with fail
      refine (is_form w7).mono ?_
      rintro e w8 ⟨rfl, rfl⟩
      go_wp2_with fail
      go_ret
      exact ⟨rfl, HB7.out⟩
end Go.Proofs.YtbklcelnnmhgkaaDoor
