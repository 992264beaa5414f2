
/- Contracts of bits.Len and of the packer's stepped, length, token. -/

/- Contract of the packer's stepped. -/

/- Contracts of the packer's length and token. -/
import Derived.Test.YtpnnlhegncbfaaaDoorGroupT
import Derived.Lib.MinMax
namespace Go.Proofs.YtpnnlhegncbfaaaDoor
set_option maxRecDepth 20000
open Go.RowKit

theorem ofInt_i64 (a : Nat) (ha : a < 9223372036854775808) : (BitVec.ofInt 64 (a : Int)).toNat = a := by
  rw [BitVec.ofInt_natCast, BitVec.toNat_ofNat]; exact Nat.mod_eq_of_lt (by omega)
theorem i64_and_nat (a b : Nat) (ha : a < 4611686018427387904) (hb : b < 4611686018427387904) : bits .and .i64 (a : Int) (b : Int) = ((a &&& b : Nat) : Int) := by
  have hx : a &&& b ≤ a := Nat.and_le_left
  show IntKind.i64.wrap ((BitVec.ofInt 64 (a : Int) &&& BitVec.ofInt 64 (b : Int)).toNat : Int) = _
  rw [BitVec.toNat_and, ofInt_i64 a (by omega), ofInt_i64 b (by omega)]
  simp [IntKind.wrap, IntKind.bits, IntKind.signed]
  omega
theorem i64_xor_nat (a b : Nat) (ha : a < 4611686018427387904) (hb : b < 4611686018427387904) : bits .xor .i64 (a : Int) (b : Int) = ((a ^^^ b : Nat) : Int) := by
  have hx : a ^^^ b < 2 ^ 62 := Nat.xor_lt_two_pow (by omega) (by omega)
  show IntKind.i64.wrap ((BitVec.ofInt 64 (a : Int) ^^^ BitVec.ofInt 64 (b : Int)).toNat : Int) = _
  rw [BitVec.toNat_xor, ofInt_i64 a (by omega), ofInt_i64 b (by omega)]
  simp [IntKind.wrap, IntKind.bits, IntKind.signed]
  omega
theorem xor_ffff (n : Nat) (h : n ≤ 65535) : n ^^^ 65535 = 65535 - n := by
  apply Nat.eq_of_testBit_eq
  intro i
  have e1 : (65535 : Nat) = 2 ^ 16 - 1 := rfl
  have e2 : 65535 - n = 2 ^ 16 - (n + 1) := by omega
  rw [Nat.testBit_xor, e2, Nat.testBit_two_pow_sub_succ (by omega), e1, Nat.testBit_two_pow_sub_one]
  by_cases hi : i < 16
  · simp [hi]
  · have : n.testBit i = false := Nat.testBit_lt_two_pow (Nat.lt_of_lt_of_le (show n < 2 ^ 16 by omega) (Nat.pow_le_pow_right (by decide) (by omega)))
    simp [hi, this]
theorem xor_n (n : Nat) (h : n ≤ 65535) : bits .xor .i64 (n : Int) 65535 = ((65535 - n : Nat) : Int) := by
  rw [show (65535 : Int) = ((65535 : Nat) : Int) from rfl, i64_xor_nat _ _ (by omega) (by omega), xor_ffff n h]
theorem and_low (x f : Nat) (hf : f ≤ 32) (hx : x < 4611686018427387904) : bits .and .i64 (x : Int) ((2 : Int) ^ f - 1) = ((x % 2 ^ f : Nat) : Int) := by
  have hp : 2 ^ f ≤ 2 ^ 32 := Nat.pow_le_pow_right (by decide) hf
  have hp0 := Nat.two_pow_pos f
  rw [show (2 : Int) ^ f - 1 = ((2 ^ f - 1 : Nat) : Int) by rw [Int.natCast_sub hp0]; simp, i64_and_nat _ _ hx (by omega), Nat.and_two_pow_sub_one_eq_mod]
def ltab : ByteArray := ⟨#[0, 1, 2, 2, 3, 3, 3, 3, 4, 4, 4, 4, 4, 4, 4, 4, 5, 5, 5, 5, 5, 5, 5, 5, 5, 5, 5, 5, 5, 5, 5, 5, 6, 6, 6, 6, 6, 6, 6, 6, 6, 6, 6, 6, 6, 6, 6, 6, 6, 6, 6, 6, 6, 6, 6, 6, 6, 6, 6, 6, 6, 6, 6, 6, 7, 7, 7, 7, 7, 7, 7, 7, 7, 7, 7, 7, 7, 7, 7, 7, 7, 7, 7, 7, 7, 7, 7, 7, 7, 7, 7, 7, 7, 7, 7, 7, 7, 7, 7, 7, 7, 7, 7, 7, 7, 7, 7, 7, 7, 7, 7, 7, 7, 7, 7, 7, 7, 7, 7, 7, 7, 7, 7, 7, 7, 7, 7, 7, 8, 8, 8, 8, 8, 8, 8, 8, 8, 8, 8, 8, 8, 8, 8, 8, 8, 8, 8, 8, 8, 8, 8, 8, 8, 8, 8, 8, 8, 8, 8, 8, 8, 8, 8, 8, 8, 8, 8, 8, 8, 8, 8, 8, 8, 8, 8, 8, 8, 8, 8, 8, 8, 8, 8, 8, 8, 8, 8, 8, 8, 8, 8, 8, 8, 8, 8, 8, 8, 8, 8, 8, 8, 8, 8, 8, 8, 8, 8, 8, 8, 8, 8, 8, 8, 8, 8, 8, 8, 8, 8, 8, 8, 8, 8, 8, 8, 8, 8, 8, 8, 8, 8, 8, 8, 8, 8, 8, 8, 8, 8, 8, 8, 8, 8, 8, 8, 8, 8, 8, 8, 8, 8, 8, 8, 8, 8, 8]⟩
theorem ltab_size : ltab.size = 256 := by decide +kernel
theorem ltab_at : ∀ k : Nat, ∀ h : k < 256, (ltab[k]'(by rw [ltab_size]; exact h)).toNat = lenT k := by decide +kernel
set_option maxHeartbeats 1000000 in
set_option maxRecDepth 10000 in
theorem blen64_any (x : Nat) (hx : x < 65536) (w : World) : Calls Tryd.prog 109 #[.int .u64 (x : Int)] w fun e w' => e = .returned (.int .i64 (blen x : Int)) ∧ w' = w := by
  have d1 : decide (4294967296 ≤ (x : Int)) = false := decide_eq_false (by omega)
  have d2 : decide (65536 ≤ (x : Int)) = false := decide_eq_false (by omega)
  go_enter Tryd.func109, Tryd.ntmps109
  by_cases h : x < 256
  · have d3 : decide (256 ≤ (x : Int)) = false := decide_eq_false (by omega)
    have e1 : (x : Int) % 256 = (x : Int) := by omega
    go_wp2_with fail
    go_ret
    refine ⟨?_, rfl⟩
    have h1 := ltab_at x h
    have h2 := lenT_le x
    have hb : blen x = lenT x := by unfold blen; rw [if_pos h]
    have e2 : wrap64 (wrap64 ((ltab[x]'(by rw [ltab_size]; exact h)).toNat : Int)) = (blen x : Int) := by
      rw [h1, hb]; unfold wrap64; omega
    exact congrArg (fun z => Ending.returned (Value.int .i64 z)) e2
  · have d3 : decide (256 ≤ (x : Int)) = true := decide_eq_true (by omega)
    obtain ⟨y, hy⟩ : ∃ y, x / 256 = y := ⟨_, rfl⟩
    have hy2 : y < 256 := by omega
    have ey : (x : Int) / 256 = (y : Int) := by omega
    have e1 : (y : Int) % 256 = (y : Int) := by omega
    have HY := Lib.hid hy
    clear hy
    go_wp2_with fail
    go_ret
    refine ⟨?_, rfl⟩
    have h1 := ltab_at y hy2
    have h2 := lenT_le y
    have hb : blen x = 8 + lenT y := by unfold blen; rw [if_neg h, HY.out]
    have e2 : wrap64 (8 + wrap64 ((ltab[y]'(by rw [ltab_size]; exact hy2)).toNat : Int)) = (blen x : Int) := by
      rw [h1, hb]; unfold wrap64; omega
    exact congrArg (fun z => Ending.returned (Value.int .i64 z)) e2
set_option maxHeartbeats 1000000 in
set_option maxRecDepth 10000 in
theorem blen_any (x : Nat) (hx : x < 65536) (w : World) : Calls Tryd.prog 100 #[.int .u64 (x : Int)] w fun e w' => e = .returned (.int .i64 (blen x : Int)) ∧ w' = w := by
  go_enter Tryd.func100, Tryd.ntmps100
  go_wp2_with fail
  refine (blen64_any x hx w).mono ?_
  rintro e wz ⟨rfl, rfl⟩
  go_wp2_with fail
  go_ret
  exact ⟨rfl, rfl⟩
end Go.Proofs.YtpnnlhegncbfaaaDoor
namespace Go.Proofs.YtpnnlhegncbfaaaDoor
set_option maxRecDepth 20000
open Go.RowKit

theorem wrap64_inT (z : Int) (h0 : -9223372036854775808 ≤ z) (h1 : z ≤ 9223372036854775807) : IntKind.i64.wrap z = z := by rw [IntKind.wrap_i64]; omega
/-- A block that the writer's step leaves alone. -/
theorem St.row {w w' : World} {gw : Nat} {v v' : Value} {H : Nat} {cs : Array Value} {t : TypeId} (hS : St w gw v w' v') (hr : Row w H cs t) (h1 : H ≠ gw) (h2 : ∀ b, v.ownBlock = some b → b ≠ H) : Row w' H cs t := by
  unfold Row
  rw [hS.block H hr.lt h1 (fun e => h2 _ e rfl)]
  exact hr
set_option maxHeartbeats 4000000 in
set_option maxRecDepth 10000 in
theorem stepped_any (K g B gw : Nat) (pa pb : Option Addr) (ls : List Nat) (first x fine : Nat) (m : List UInt8) (v : Value) (w : World) (hc : HC w K g ls) (hK : K ≤ w.heap.size) (hs : lenAt ls (sgn first x fine) ≠ 0)
    (hx : x < 40000) (hfi : first ≤ 300) (hf : fine = 1 ∨ fine = 2) (hW : WM w B gw v m) (hB : B ≤ w.heap.size) (hL : m.length ≤ 6999900) :
    Calls Tryd.prog 76 #[pkV gw pa pb, .pointer (some ⟨g, 0, none⟩), .int .i64 (first : Int), .int .i64 (x : Int), .int .i64 (fine : Int)] w fun e w' => e = .returned (.tuple #[]) ∧ ∃ v', WM w' B gw v' (m ++ (bitsO ls (sgn first x fine : Int) ++ lowB (x % 2 ^ fur x fine) (fur x fine))) ∧ St w gw v w' v' := by
  have hg1 := World.grownBy_alloc w (.cells #[.pointer (some ⟨gw, 0, none⟩), .pointer pa, .pointer pb] 84) none
  have HC1 := Lib.hid (hc.grown hK hg1 (fun k hk => by cases hk))
  have HK1 := Lib.hid (Nat.le_trans hK hg1.size)
  have HW1 := Lib.hid (hW.grow hg1)
  have HS1 := Lib.hid (St.none (g := gw) (v := v) hg1)
  have HB1 := Lib.hid (Nat.le_trans hB hg1.size)
  have hR : Row (w.alloc (.cells #[.pointer (some ⟨gw, 0, none⟩), .pointer pa, .pointer pb] 84)) w.heap.size #[.pointer (some ⟨gw, 0, none⟩), .pointer pa, .pointer pb] 84 := heap_alloc_new w _
  have HR := Lib.hid hR
  have HN : RowKit.Hid (w.heap.size ≠ gw ∧ ∀ b, v.ownBlock = some b → b ≠ w.heap.size) := Lib.hid ⟨by have := hW.wr.row.lt; omega, fun b hb => by have := (World.ownsRow.lt hW.wr.own b hb).2; omega⟩
  have HL := Lib.hid hL
  have HSN := Lib.hid hs
  have HLO := Lib.hid hc.low
  have c0 : (w.alloc (.cells #[.pointer (some ⟨gw, 0, none⟩), .pointer pa, .pointer pb] 84)).cell? ⟨w.heap.size, 0, none⟩ = some (.pointer (some ⟨gw, 0, none⟩)) := hR.cell 0
  have c1 : (w.alloc (.cells #[.pointer (some ⟨gw, 0, none⟩), .pointer pa, .pointer pb] 84)).cell? ⟨w.heap.size, 1, none⟩ = some (.pointer pa) := hR.cell 1
  have c2 : (w.alloc (.cells #[.pointer (some ⟨gw, 0, none⟩), .pointer pa, .pointer pb] 84)).cell? ⟨w.heap.size, 2, none⟩ = some (.pointer pb) := hR.cell 2
  have hxm : (x : Int) % 18446744073709551616 = (x : Int) := by omega
  have HBL := Lib.hid (fun w => blen_any x (by omega) w)
  obtain ⟨bl, hbl⟩ : ∃ bl, blen x = bl := ⟨_, rfl⟩
  have hbl16 : bl ≤ 16 := by rw [← hbl]; exact blen_le x
  obtain ⟨f, hfe⟩ : ∃ f, fur x fine = f := ⟨_, rfl⟩
  have hff : f = bl - 1 - fine := by rw [← hfe, ← hbl]; rfl
  have hsg : sgn first x fine = first + f * 2 ^ fine + x / 2 ^ f := by unfold sgn; rw [hfe]
  rw [hfe] at *
  rw [hbl] at HBL
  obtain ⟨SS, hSS⟩ : ∃ SS, sgn first x fine = SS := ⟨_, rfl⟩
  rw [hSS] at HSN hsg ⊢
  have hfi2 : fine ≤ 2 := by omega
  have hf15 : f ≤ 15 := by omega
  obtain ⟨Q, hQ⟩ : ∃ Q, x / 2 ^ f = Q := ⟨_, rfl⟩
  obtain ⟨PP, hP⟩ : ∃ PP, f * 2 ^ fine = PP := ⟨_, rfl⟩
  have hQx : Q ≤ x := by rw [← hQ]; exact Nat.div_le_self _ _
  have hPx : PP ≤ 60 := by
    rw [← hP]
    rcases hf with rfl | rfl <;> omega
  have e0 : max (0 : Int) ((bl : Int) - 1 - (fine : Int)) = (f : Int) := by omega
  have e1 : (x : Int) / 2 ^ f = (Q : Int) := by rw [← hQ]; simp
  have e2 : (f : Int) * 2 ^ fine = (PP : Int) := by rw [← hP]; simp
  obtain ⟨R1, hR1⟩ : ∃ R1, first + PP = R1 := ⟨_, rfl⟩
  have e4 : (first : Int) + (PP : Int) = (R1 : Int) := by omega
  have e5 : (R1 : Int) + (Q : Int) = (SS : Int) := by rw [hsg, hQ, hP]; omega
  have hsb : SS ≤ 60000 := by rw [hsg, hQ, hP]; omega
  have hRb : R1 ≤ 60000 := by omega
  have g1 : IntKind.i64.wrap (PP : Int) = (PP : Int) := wrap64_inT _ (by omega) (by omega)
  have g2 : IntKind.i64.wrap (R1 : Int) = (R1 : Int) := wrap64_inT _ (by omega) (by omega)
  have g3 : IntKind.i64.wrap (SS : Int) = (SS : Int) := wrap64_inT _ (by omega) (by omega)
  clear hQ hP hR1 hsg hff hf hSS hc hK hs hW hB hL hg1 hR hbl hfe
  go_enter Tryd.func76, Tryd.ntmps76
  go_wp2_with fail
  refine (HBL.out _).mono ?_
  rintro e wz ⟨rfl, rfl⟩
  go_wp2_with fail
  have HSG := Lib.hid (sign_any2 K g B gw pa pb ls SS m v (w.alloc (.cells #[.pointer (some ⟨gw, 0, none⟩), .pointer pa, .pointer pb] 84)).drew (HC1.out.grown HK1.out (grown_drewN _ 1) (fun k hk => by cases hk)) HK1.out HSN.out (HW1.out.grow (grown_drewN _ 1)) HB1.out (by have := HL.out; omega))
  have HSD : RowKit.Hid (St w gw v (w.alloc (.cells #[.pointer (some ⟨gw, 0, none⟩), .pointer pa, .pointer pb] 84)).drew v) := Lib.hid (HS1.out.trans (St.none (g := gw) (v := v) (grown_drewN (w.alloc (.cells #[.pointer (some ⟨gw, 0, none⟩), .pointer pa, .pointer pb] 84)) 1)))
  have HRD : RowKit.Hid (Row (w.alloc (.cells #[.pointer (some ⟨gw, 0, none⟩), .pointer pa, .pointer pb] 84)).drew w.heap.size #[.pointer (some ⟨gw, 0, none⟩), .pointer pa, .pointer pb] 84) := Lib.hid HR.out
  have HBW : RowKit.Hid (B ≤ (w.alloc (.cells #[.pointer (some ⟨gw, 0, none⟩), .pointer pa, .pointer pb] 84)).drew.heap.size) := Lib.hid HB1.out
  have k0 : (w.alloc (.cells #[.pointer (some ⟨gw, 0, none⟩), .pointer pa, .pointer pb] 84)).drew.cell? ⟨w.heap.size, 0, none⟩ = some (.pointer (some ⟨gw, 0, none⟩)) := c0
  have k1 : (w.alloc (.cells #[.pointer (some ⟨gw, 0, none⟩), .pointer pa, .pointer pb] 84)).drew.cell? ⟨w.heap.size, 1, none⟩ = some (.pointer pa) := c1
  have k2 : (w.alloc (.cells #[.pointer (some ⟨gw, 0, none⟩), .pointer pa, .pointer pb] 84)).drew.cell? ⟨w.heap.size, 2, none⟩ = some (.pointer pb) := c2
  clear c0 c1 c2 e0 hxm
  refine wp_region_any (by kernel_rfl) ?_
  change wpAny _ _ _ _ _ _ _ (World.drew _)
  generalize (w.alloc (.cells #[.pointer (some ⟨gw, 0, none⟩), .pointer pa, .pointer pb] 84)).drew = w2 at HSG HSD HRD HBW k0 k1 k2 ⊢
  refine wpAny_take (i := 1) (v := ?_) rfl (by kernel_rfl) (by kernel_rfl) (by kernel_rfl) (fun _ _ _ h => h) (Or.inl ⟨by rfl, ?_⟩) ?_
  rotate_left
  · intro w
    go_simp
    try with_reducible rfl
  refine wpAny_take (i := 2) (v := ?_) rfl (by kernel_rfl) (by kernel_rfl) (by kernel_rfl) (fun _ _ _ h => h) (Or.inl ⟨by rfl, ?_⟩) ?_
  rotate_left
  · intro w
    go_simp
    try with_reducible rfl
  refine wpAny_take (i := 3) (v := ?_) rfl (by kernel_rfl) (by kernel_rfl) (by kernel_rfl) (fun _ _ _ h => h) (Or.inl ⟨by rfl, ?_⟩) ?_
  rotate_left
  · intro w
    go_simp
    try with_reducible rfl
  refine wpAny_take (i := 4) (v := ?_) rfl (by kernel_rfl) (by kernel_rfl) (by kernel_rfl) (fun _ _ _ h => h) (Or.inl ⟨by rfl, ?_⟩) ?_
  rotate_left
  · intro w
    go_simp
    try with_reducible rfl
  refine wpAny_take (i := 5) (v := ?_) rfl (by kernel_rfl) (by kernel_rfl) (by kernel_rfl) (fun _ _ _ h => h) (Or.inl ⟨by rfl, ?_⟩) ?_
  rotate_left
  · intro w
    go_simp
    try with_reducible rfl
  refine wpAny_take (i := 6) (v := ?_) rfl (by kernel_rfl) (by kernel_rfl) (by kernel_rfl) (fun _ _ _ h => h) (Or.inl ⟨by rfl, ?_⟩) ?_
  rotate_left
  · intro w
    go_simp
    try with_reducible rfl
  refine wpAny_take (i := 7) (v := ?_) rfl (by kernel_rfl) (by kernel_rfl) (by kernel_rfl) (fun _ _ _ h => h) (Or.inl ⟨by rfl, ?_⟩) ?_
  rotate_left
  · intro w
    go_simp
    try with_reducible rfl
  refine wpAny_take (i := 8) (v := ?_) rfl (by kernel_rfl) (by kernel_rfl) (by kernel_rfl) (fun _ _ _ h => h) (Or.inl ⟨by rfl, ?_⟩) ?_
  rotate_left
  · intro w
    go_simp
    try with_reducible rfl
  refine wpAny_take (i := 9) (v := ?_) rfl (by kernel_rfl) (by kernel_rfl) (by kernel_rfl) (fun _ _ _ h => h) (Or.inl ⟨by rfl, ?_⟩) ?_
  rotate_left
  · intro w
    go_simp
    try with_reducible rfl
  refine wpAny_take (i := 10) (v := ?_) rfl (by kernel_rfl) (by kernel_rfl) (by kernel_rfl) (fun _ _ _ h => h) (Or.inl ⟨by rfl, ?_⟩) ?_
  rotate_left
  · intro w
    go_simp
    try with_reducible rfl
  refine wpAny_ready (rs := [0]) (by kernel_rfl) (by simp) ?_
  refine AllReady.cons rfl (fun K hK => ?_) AllReady.nil
  go_simp
  refine hK _ _ ?_
  clear hK K
  refine wpAny_ready (rs := [11]) (by kernel_rfl) (by simp) ?_
  refine AllReady.cons rfl (fun K hK => ?_) AllReady.nil
  go_simp
  go_wp2_with fail
  refine HSG.out.mono ?_
  rintro e w3 ⟨rfl, v3, hW3, hS3⟩
  have hr3 := hS3.row HRD.out HN.out.1 HN.out.2
  have HW3 := Lib.hid hW3
  have HS3 := Lib.hid (HSD.out.trans hS3)
  have HB3 : RowKit.Hid (B ≤ w3.heap.size) := Lib.hid (Nat.le_trans HBW.out hS3.size)
  have q0 : w3.drew.cell? ⟨w.heap.size, 0, none⟩ = some (.pointer (some ⟨gw, 0, none⟩)) := hr3.cell 0
  have q1 : w3.drew.cell? ⟨w.heap.size, 1, none⟩ = some (.pointer pa) := hr3.cell 1
  have q2 : w3.drew.cell? ⟨w.heap.size, 2, none⟩ = some (.pointer pb) := hr3.cell 2
  clear hW3 hS3 hr3 k0 k1 k2 HSG
  go_simp
  refine hK _ _ ?_
  clear hK K
  refine wpAny_done (by kernel_rfl) ?_ _
  have HNM := Lib.hid (number_any2 gw B pa pb (x % 2 ^ f) f (m ++ bitsO ls (SS : Int)) v3 w3.drew (HW3.out.grow (grown_drewN _ 1)) HB3.out (by omega) (Nat.mod_lt _ (Nat.two_pow_pos _)) (by have h1 := HL.out; have h2 := lenI_bound HLO.out (SS : Int); rw [List.length_append, bitsO_length]; omega))
  have HSD3 : RowKit.Hid (St w gw v w3.drew v3) := Lib.hid (HS3.out.trans (St.none (g := gw) (v := v3) (grown_drewN w3 1)))
  obtain ⟨pw, hpw⟩ : ∃ pw, 2 ^ f = pw := ⟨_, rfl⟩
  have hpw1 : 1 ≤ pw := by rw [← hpw]; exact Nat.two_pow_pos f
  have hpw2 : pw ≤ 32768 := by rw [← hpw]; exact Nat.pow_le_pow_right (by decide) hf15
  have e6 : (2 : Int) ^ f = (pw : Int) := by rw [← hpw]; simp
  have g4 : IntKind.i64.wrap (pw : Int) = (pw : Int) := wrap64_inT _ (by omega) (by omega)
  have g5 : IntKind.i64.wrap ((pw : Int) - 1) = (pw : Int) - 1 := wrap64_inT _ (by omega) (by omega)
  have e3 : bits .and .i64 (x : Int) ((pw : Int) - 1) = ((x % pw : Nat) : Int) := by rw [← e6, ← hpw]; exact and_low x _ (by omega) (by omega)
  obtain ⟨xr, hxr⟩ : ∃ xr, x % pw = xr := ⟨_, rfl⟩
  have HXR : RowKit.Hid (x % 2 ^ f = xr) := Lib.hid (by rw [hpw, hxr])
  rw [hpw, hxr] at HNM
  rw [hxr] at e3
  clear hpw hxr e1 e2 e4 e5
  go_wp2_with fail
  refine wp_region_any (by kernel_rfl) ?_
  change wpAny _ _ _ _ _ _ _ (World.drew _)
  generalize w3.drew = w4 at HNM HSD3 q0 q1 q2 ⊢
  refine wpAny_take (i := 1) (v := ?_) rfl (by kernel_rfl) (by kernel_rfl) (by kernel_rfl) (fun _ _ _ h => h) (Or.inl ⟨by rfl, ?_⟩) ?_
  rotate_left
  · intro w
    go_simp
    try with_reducible rfl
  refine wpAny_take (i := 2) (v := ?_) rfl (by kernel_rfl) (by kernel_rfl) (by kernel_rfl) (fun _ _ _ h => h) (Or.inl ⟨by rfl, ?_⟩) ?_
  rotate_left
  · intro w
    go_simp
    try with_reducible rfl
  refine wpAny_take (i := 3) (v := ?_) rfl (by kernel_rfl) (by kernel_rfl) (by kernel_rfl) (fun _ _ _ h => h) (Or.inl ⟨by rfl, ?_⟩) ?_
  rotate_left
  · intro w
    go_simp
    try with_reducible rfl
  refine wpAny_take (i := 4) (v := ?_) rfl (by kernel_rfl) (by kernel_rfl) (by kernel_rfl) (fun _ _ _ h => h) (Or.inl ⟨by rfl, ?_⟩) ?_
  rotate_left
  · intro w
    go_simp
    try with_reducible rfl
  refine wpAny_take (i := 5) (v := ?_) rfl (by kernel_rfl) (by kernel_rfl) (by kernel_rfl) (fun _ _ _ h => h) (Or.inl ⟨by rfl, ?_⟩) ?_
  rotate_left
  · intro w
    go_simp
    try with_reducible rfl
  refine wpAny_take (i := 6) (v := ?_) rfl (by kernel_rfl) (by kernel_rfl) (by kernel_rfl) (fun _ _ _ h => h) (Or.inl ⟨by rfl, ?_⟩) ?_
  rotate_left
  · intro w
    go_simp
    try with_reducible rfl
  refine wpAny_ready (rs := [0]) (by kernel_rfl) (by simp) ?_
  refine AllReady.cons rfl (fun K hK => ?_) AllReady.nil
  go_simp
  refine hK _ _ ?_
  clear hK K
  refine wpAny_ready (rs := [7]) (by kernel_rfl) (by simp) ?_
  refine AllReady.cons rfl (fun K hK => ?_) AllReady.nil
  go_simp
  go_wp2_with fail
  refine HNM.out.mono ?_
  rintro e w5 ⟨rfl, v5, hW5, hS5⟩
  have HW5 := Lib.hid hW5
  have HS5 := Lib.hid (HSD3.out.trans hS5)
  clear hW5 hS5 q0 q1 q2 HNM
  go_simp
  refine hK _ _ ?_
  clear hK K
  refine wpAny_done (by kernel_rfl) ?_ _
  go_wp2_with fail
  go_end0
  exact ⟨rfl, v5, by rw [HXR.out, ← List.append_assoc]; exact HW5.out, HS5.out⟩
end Go.Proofs.YtpnnlhegncbfaaaDoor
namespace Go.Proofs.YtpnnlhegncbfaaaDoor
set_option maxRecDepth 20000
open Go.RowKit

theorem fix_low : Low fixA ∧ Low fixB := by
  constructor
  · intro x hx; revert x; decide +kernel
  · intro x hx; revert x; decide +kernel
theorem fixA_len : ∀ s : Nat, s < 288 → lenAt fixA s ≠ 0 := by decide +kernel
theorem fixB_len : ∀ s : Nat, s < 32 → lenAt fixB s ≠ 0 := by decide +kernel
/-- A length's bits, a token's bits. -/
def lenB (L : Nat) : List UInt8 := if L = 258 then bitsO fixA (285 : Nat) else bitsO fixA (sgn 257 (L - 3) 2 : Nat) ++ lowB ((L - 3) % 2 ^ fur (L - 3) 2) (fur (L - 3) 2)
def distB (D : Nat) : List UInt8 := bitsO fixB (sgn 0 (D - 1) 1 : Nat) ++ lowB ((D - 1) % 2 ^ fur (D - 1) 1) (fur (D - 1) 1)
def tokB (t : Tk) : List UInt8 := if t.l = 0 then bitsO fixA (t.b.toNat : Nat) else lenB t.l.toNat ++ distB t.d.toNat
theorem fur_le (x fine : Nat) : fur x fine ≤ 15 := by have := blen_le x; unfold fur; omega
theorem lenB_length (L : Nat) : (lenB L).length ≤ 40 := by
  unfold lenB
  split
  · rw [bitsO_length]; have := lenI_bound fix_low.1 (285 : Nat); omega
  · rw [List.length_append, bitsO_length, lowB_length]
    have h1 := lenI_bound fix_low.1 (sgn 257 (L - 3) 2 : Nat)
    have h2 := fur_le (L - 3) 2
    omega
theorem distB_length (D : Nat) : (distB D).length ≤ 40 := by
  unfold distB
  rw [List.length_append, bitsO_length, lowB_length]
  have h1 := lenI_bound fix_low.2 (sgn 0 (D - 1) 1 : Nat)
  have h2 := fur_le (D - 1) 1
  omega
theorem tokB_length (t : Tk) : (tokB t).length ≤ 80 := by
  unfold tokB
  split
  · rw [bitsO_length]; have := lenI_bound fix_low.1 (t.b.toNat : Nat); omega
  · have h1 := lenB_length t.l.toNat
    have h2 := distB_length t.d.toNat
    rw [List.length_append]; omega
/-- What is known of a packer beside its two codes. -/
structure PS (w : World) (B gw : Nat) (v : Value) (m : List UInt8) (lo K a b : Nat) : Prop where
  wm : WM w B gw v m
  hB : B ≤ w.heap.size
  glo : gw < lo
  own : ∀ k, v.ownBlock = some k → K ≤ k
  ca : HL w lo K a fixA
  cb : HL w lo K b fixB
  hK : K ≤ w.heap.size
section
variable {w w' : World} {B gw lo K a b : Nat} {v v' : Value} {m m' : List UInt8}
theorem PS.step (h : PS w B gw v m lo K a b) (hW : WM w' B gw v' m') (hS : St w gw v w' v') : PS w' B gw v' m' lo K a b := by
  have he : ∀ k, lo ≤ k → k < K → w'.heap[k]? = w.heap[k]? := fun k h1 h2 => hS.block k (by have := h.hK; omega) (by have := h.glo; omega) (fun e => by have := h.own k e; omega)
  refine ⟨hW, Nat.le_trans h.hB hS.size, h.glo, fun k hk => ?_, fun w'' hh => h.ca w'' (fun k h1 h2 => (hh k h1 h2).trans (he k h1 h2)), fun w'' hh => h.cb w'' (fun k h1 h2 => (hh k h1 h2).trans (he k h1 h2)), Nat.le_trans h.hK hS.size⟩
  rcases hS.fresh with e | ⟨j, e, hj⟩
  · exact h.own k (e ▸ hk)
  · rw [e] at hk; injection hk with hk; have := h.hK; omega
theorem PS.grow (h : PS w B gw v m lo K a b) (hg : w.grownBy w' none) : PS w' B gw v m lo K a b := h.step (h.wm.grow hg) (St.none hg)
theorem PS.hca (h : PS w B gw v m lo K a b) : HC w K a fixA := h.ca w (fun _ _ _ => rfl)
theorem PS.hcb (h : PS w B gw v m lo K a b) : HC w K b fixB := h.cb w (fun _ _ _ => rfl)
theorem PS.notNew (h : PS w B gw v m lo K a b) : w.heap.size ≠ gw ∧ ∀ k, v.ownBlock = some k → k ≠ w.heap.size :=
  ⟨by have := h.wm.wr.row.lt; omega, fun k hk => by have := (World.ownsRow.lt h.wm.wr.own k hk).2; omega⟩
end
set_option maxHeartbeats 2000000 in
set_option maxRecDepth 10000 in
theorem length_any (B gw lo K a b L : Nat) (v : Value) (m : List UInt8) (w : World) (h : PS w B gw v m lo K a b) (h3 : 3 ≤ L) (h258 : L ≤ 258) (hL : m.length ≤ 6999000) :
    Calls Tryd.prog 75 #[pkV gw (some ⟨a, 0, none⟩) (some ⟨b, 0, none⟩), .int .i64 (L : Int)] w fun e w' => e = .returned (.tuple #[]) ∧ ∃ v', PS w' B gw v' (m ++ lenB L) lo K a b ∧ St w gw v w' v' := by
  have hg1 := World.grownBy_alloc w (.cells #[.pointer (some ⟨gw, 0, none⟩), .pointer (some ⟨a, 0, none⟩), .pointer (some ⟨b, 0, none⟩)] 84) none
  have HP := Lib.hid (h.grow hg1)
  have HS1 := Lib.hid (St.none (g := gw) (v := v) hg1)
  have HLM := Lib.hid hL
  clear h hg1 hL
  go_enter Tryd.func75, Tryd.ntmps75
  by_cases he : L = 258
  · subst he
    go_wp2_with fail
    refine (sign_any2 K a B gw (some ⟨a, 0, none⟩) (some ⟨b, 0, none⟩) fixA 285 m v _ HP.out.hca HP.out.hK (fixA_len 285 (by decide)) HP.out.wm HP.out.hB (by have := HLM.out; omega)).mono ?_
    rintro e w3 ⟨rfl, v3, hW3, hS3⟩
    have HF := Lib.hid (And.intro (HP.out.step hW3 hS3) (HS1.out.trans hS3))
    clear hW3 hS3
    go_wp2_with fail
    refine bodyPost_ret (results_none rfl _ _ _) rfl ?_
    exact ⟨rfl, v3, HF.out.1, HF.out.2⟩
  · have d1 : ((L : Int) == 258) = false := by rw [beq_eq_false_iff_ne]; omega
    obtain ⟨x, hx⟩ : ∃ x, L - 3 = x := ⟨_, rfl⟩
    have ex : (L : Int) - 3 = (x : Int) := by omega
    have hLB : lenB L = bitsO fixA (sgn 257 x 2 : Nat) ++ lowB (x % 2 ^ fur x 2) (fur x 2) := by unfold lenB; rw [if_neg he, hx]
    have hsg : sgn 257 x 2 ≤ 284 := by rw [← hx]; exact (len_tells L (by omega) h3).2.1
    have HB := Lib.hid hLB
    clear hLB
    go_wp2_with fail
    refine (stepped_any K a B gw (some ⟨a, 0, none⟩) (some ⟨b, 0, none⟩) fixA 257 x 2 m v _ HP.out.hca HP.out.hK (fixA_len _ (by omega)) (by omega) (by omega) (.inr rfl) HP.out.wm HP.out.hB (by have := HLM.out; omega)).mono ?_
    rintro e w3 ⟨rfl, v3, hW3, hS3⟩
    rw [← HB.out] at hW3
    have HF := Lib.hid (And.intro (HP.out.step hW3 hS3) (HS1.out.trans hS3))
    clear hW3 hS3
    go_wp2_with fail
    go_end0
    exact ⟨rfl, v3, HF.out.1, HF.out.2⟩
set_option maxHeartbeats 4000000 in
set_option maxRecDepth 10000 in
theorem token_any (B gw lo K a b : Nat) (t : Tk) (v : Value) (m : List UInt8) (w : World) (h : PS w B gw v m lo K a b) (ht : t.l = 0 ∨ (3 ≤ t.l ∧ t.l ≤ 258 ∧ 1 ≤ t.d ∧ t.d ≤ 32768)) (hL : m.length ≤ 6998000) :
    Calls Tryd.prog 52 #[pkV gw (some ⟨a, 0, none⟩) (some ⟨b, 0, none⟩), tokV t] w fun e w' => e = .returned (.tuple #[]) ∧ ∃ v', PS w' B gw v' (m ++ tokB t) lo K a b ∧ St w gw v w' v' := by
  have hg1 := World.grownBy_alloc w (.cells #[.pointer (some ⟨gw, 0, none⟩), .pointer (some ⟨a, 0, none⟩), .pointer (some ⟨b, 0, none⟩)] 84) none
  have hg2 := World.grownBy_alloc (w.alloc (.cells #[.pointer (some ⟨gw, 0, none⟩), .pointer (some ⟨a, 0, none⟩), .pointer (some ⟨b, 0, none⟩)] 84)) (.cells #[U8 t.b, .int .i64 t.l, .int .i64 t.d] 44) none
  have HP := Lib.hid ((h.grow hg1).grow hg2)
  have HS1 := Lib.hid (St.none (g := gw) (v := v) (hg1.trans hg2))
  have hR1 : Row (w.alloc (.cells #[.pointer (some ⟨gw, 0, none⟩), .pointer (some ⟨a, 0, none⟩), .pointer (some ⟨b, 0, none⟩)] 84)) w.heap.size #[.pointer (some ⟨gw, 0, none⟩), .pointer (some ⟨a, 0, none⟩), .pointer (some ⟨b, 0, none⟩)] 84 := heap_alloc_new w _
  have hR1b := hR1.grown hg2 (by simp)
  have hR2 : Row ((w.alloc (.cells #[.pointer (some ⟨gw, 0, none⟩), .pointer (some ⟨a, 0, none⟩), .pointer (some ⟨b, 0, none⟩)] 84)).alloc (.cells #[U8 t.b, .int .i64 t.l, .int .i64 t.d] 44)) (w.heap.size + 1) #[U8 t.b, .int .i64 t.l, .int .i64 t.d] 44 := by
    have h0 := heap_alloc_new (w.alloc (.cells #[.pointer (some ⟨gw, 0, none⟩), .pointer (some ⟨a, 0, none⟩), .pointer (some ⟨b, 0, none⟩)] 84)) (.cells #[U8 t.b, .int .i64 t.l, .int .i64 t.d] 44)
    unfold Row
    simpa using h0
  have HR1 := Lib.hid hR1b
  have HR2 := Lib.hid hR2
  have HN : RowKit.Hid ((w.heap.size ≠ gw ∧ ∀ k, v.ownBlock = some k → k ≠ w.heap.size) ∧ (w.heap.size + 1 ≠ gw ∧ ∀ k, v.ownBlock = some k → k ≠ w.heap.size + 1)) := Lib.hid ⟨h.notNew, by have := h.wm.wr.row.lt; omega, fun k hk => by have := (World.ownsRow.lt h.wm.wr.own k hk).2; omega⟩
  have HLM := Lib.hid hL
  clear h hg1 hg2 hL hR1 hR1b hR2
  go_enter Tryd.func52, Tryd.ntmps52
  by_cases he : t.l = 0
  · have d1 : (t.l == 0) = true := by rw [he]; rfl
    have HB : RowKit.Hid (tokB t = bitsO fixA (t.b.toNat : Nat)) := Lib.hid (by unfold tokB; rw [if_pos he])
    have hb : t.b.toNat < 256 := t.b.toNat_lt
    clear he ht
    go_wp2_with fail
    refine (sign_any2 K a B gw (some ⟨a, 0, none⟩) (some ⟨b, 0, none⟩) fixA t.b.toNat m v _ HP.out.hca HP.out.hK (fixA_len _ (by omega)) HP.out.wm HP.out.hB (by have := HLM.out; omega)).mono ?_
    rintro e w3 ⟨rfl, v3, hW3, hS3⟩
    rw [← HB.out] at hW3
    have HF := Lib.hid (And.intro (HP.out.step hW3 hS3) (HS1.out.trans hS3))
    clear hW3 hS3
    go_wp2_with fail
    refine bodyPost_ret (results_none rfl _ _ _) rfl ?_
    exact ⟨rfl, v3, HF.out.1, HF.out.2⟩
  · have d1 : (t.l == 0) = false := by rw [beq_eq_false_iff_ne]; exact he
    obtain ⟨L, hl⟩ : ∃ L : Nat, t.l = (L : Int) := ⟨t.l.toNat, by omega⟩
    obtain ⟨D, hd⟩ : ∃ D : Nat, t.d = (D : Int) := ⟨t.d.toNat, by omega⟩
    obtain ⟨x, hx⟩ : ∃ x, D - 1 = x := ⟨_, rfl⟩
    have ex : (D : Int) - 1 = (x : Int) := by omega
    have HB : RowKit.Hid (tokB t = lenB L ++ (bitsO fixB (sgn 0 x 1 : Nat) ++ lowB (x % 2 ^ fur x 1) (fur x 1))) := Lib.hid (by unfold tokB distB; rw [if_neg he, hl, hd, Int.toNat_natCast, Int.toNat_natCast, hx])
    have hsg : sgn 0 x 1 ≤ 29 := (dist_tells (x := x) (by omega)).1
    have h3 : 3 ≤ L := by omega
    have h258 : L ≤ 258 := by omega
    have hx2 : x < 32768 := by omega
    have HT : RowKit.Hid (t.l = (L : Int) ∧ t.d = (D : Int)) := Lib.hid ⟨hl, hd⟩
    have HLE := Lib.hid (length_any B gw lo K a b L v m _ HP.out h3 h258 (by have := HLM.out; omega))
    rw [← hl] at HLE
    have ex2 : t.d - 1 = (x : Int) := by omega
    have htd : t.d ≤ 32768 := by omega
    have htd1 : 1 ≤ t.d := by omega
    clear he ht hx hl hd ex
    go_wp2_with fail
    refine HLE.out.mono ?_
    rintro e w3 ⟨rfl, v3, hP3, hS3⟩
    have hr1 := hS3.row HR1.out HN.out.1.1 HN.out.1.2
    have hr2 := hS3.row HR2.out HN.out.2.1 HN.out.2.2
    have k0 : w3.cell? ⟨w.heap.size, 0, none⟩ = some (.pointer (some ⟨gw, 0, none⟩)) := hr1.cell 0
    have k1 : w3.cell? ⟨w.heap.size, 1, none⟩ = some (.pointer (some ⟨a, 0, none⟩)) := hr1.cell 1
    have k2 : w3.cell? ⟨w.heap.size, 2, none⟩ = some (.pointer (some ⟨b, 0, none⟩)) := hr1.cell 2
    have q2 : w3.cell? ⟨w.heap.size + 1, 2, none⟩ = some (.int .i64 t.d) := hr2.cell 2
    have HP3 := Lib.hid hP3
    have HS3 := Lib.hid (HS1.out.trans hS3)
    clear hP3 hS3 hr1 hr2 HLE
    go_wp2_with fail
    refine (stepped_any K b B gw (some ⟨a, 0, none⟩) (some ⟨b, 0, none⟩) fixB 0 x 1 (m ++ lenB L) v3 w3 HP3.out.hcb HP3.out.hK (fixB_len _ (by omega)) (by omega) (by omega) (.inl rfl) HP3.out.wm HP3.out.hB (by have h1 := HLM.out; have h2 := lenB_length L; rw [List.length_append]; omega)).mono ?_
    rintro e w4 ⟨rfl, v4, hW4, hS4⟩
    rw [List.append_assoc, ← HB.out] at hW4
    have HF := Lib.hid (And.intro (HP3.out.step hW4 hS4) (HS3.out.trans hS4))
    clear hW4 hS4 k0 k1 k2 q2
    go_wp2_with fail
    go_end0
    exact ⟨rfl, v4, HF.out.1, HF.out.2⟩
end Go.Proofs.YtpnnlhegncbfaaaDoor
