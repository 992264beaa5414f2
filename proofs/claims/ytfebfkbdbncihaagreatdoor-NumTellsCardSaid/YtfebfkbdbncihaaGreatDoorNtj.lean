/- Contract of ftoa64, at floats that are no infinities and not 0. -/
import Derived.Test.YtfebfkbdbncihaaGreatDoorNtg
import Derived.Test.YtfebfkbdbncihaaGreatDoorNth
import Derived.Test.YtfebfkbdbncihaaGreatDoorNti
import Derived.Test.YtfebfkbdbncihaaGreatDoorNuh
import Derived.BigQuiet
import Derived.Deep.QuietTactic
namespace Go.Proofs.YtfebfkbdbncihaaGreatDoor
set_option maxRecDepth 100000
open Go.RowKit

theorem nzF_le (D : List UInt8) : nzF D ≤ D.length := by
  unfold nzF Lib.trimRightB
  rw [List.length_reverse]
  have := (List.dropWhile_sublist (l := D.reverse) (· == (48 : UInt8))).length_le
  rwa [List.length_reverse] at this
theorem efg_any (neg : Bool) (A : Option Addr) (c N b nd : Nat) (dp : Int) (D : List UInt8) (w : World) (h : EF w w N b (.slice A 0 c) [] D) (hD : D.length ≤ 20) (hnd : nd ≤ D.length) (hdp1 : -900 ≤ dp) (hdp2 : dp ≤ 900) :
    Calls Tryz.prog 104 #[.slice A 0 c, .bool neg, .slice (some ⟨b, 0, none⟩) 32 32, .int .i64 dp, .int .i64 (nd : Int), .int .i64 (max ((nd : Int) - 1) 0), .int .u8 101, .bool true] w fun e w' =>
      ∃ v', e = .returned v' ∧ EF w w' N b v' (efL neg D nd dp) D := by
  match nd, hnd with
  | 0, _ => exact efg_0 neg A c N b dp D w h hdp1 hdp2
  | 1, hnd => exact efg_1 neg A c N b dp D w h hD hnd hdp1 hdp2
  | k + 2, hnd =>
    rw [show max (((k + 2 : Nat) : Int) - 1) 0 = ((k + 1 : Nat) : Int) from by omega]
    exact efg_2 neg A c N b k dp D w h hD hnd hdp1 hdp2
theorem sfE_p (m : Nat) (e : Int) (h1 : -1137 ≤ e) (h2 : e ≤ 1100) : -500 ≤ (sfE m e).2 ∧ (sfE m e).2 ≤ 500 := by
  have hq : ∀ a b c p, (sfD a b c p).2 = -p ∨ (sfD a b c p).2 = -(p - 1) := by
    intro a b c p
    unfold sfD
    split
    · exact .inr rfl
    · split <;> exact .inl rfl
  have ht : ∀ e p a b c o, (sfT e p a b c o).2 = -p ∨ (sfT e p a b c o).2 = -(p - 1) := fun e p a b c o => hq _ _ _ _
  have l1 : ∀ x, -1200 ≤ x → x ≤ 1200 → -400 ≤ l10 x ∧ l10 x ≤ 400 := by intro x h1 h2; unfold l10; omega
  have l2 : ∀ x, -1200 ≤ x → x ≤ 1200 → -400 ≤ skewZ x ∧ skewZ x ≤ 400 := by intro x h1 h2; unfold skewZ; omega
  unfold sfE
  split
  · have := l2 (e + 11) (by omega) (by omega)
    have := ht e (-skewZ (e + 11)) (IntKind.u64.wrap ((m : Int) - 512)).toNat (IntKind.u64.wrap ((m : Int) + 1024)).toNat m (oddZ m 11)
    omega
  · split
    · have := l1 (e + 11) (by omega) (by omega)
      have := ht e (-l10 (e + 11)) (IntKind.u64.wrap ((m : Int) - 1024)).toNat (IntKind.u64.wrap ((m : Int) + 1024)).toNat m (oddZ m 11)
      omega
    · have := l1 (-1074) (by omega) (by omega)
      have := ht e (-l10 (-1074)) (IntKind.u64.wrap ((m : Int) - IntKind.u64.wrap (2 ^ (-1075 - e).toNat))).toNat (IntKind.u64.wrap ((m : Int) + IntKind.u64.wrap (2 ^ (-1075 - e).toNat))).toNat m (bits .and .i64 (wrap64 ((m : Int) / 2 ^ (-1074 - e).toNat)) 1)
      omega
theorem bits101 (x : Nat) (w : World) : (callFunc 101 #[.float .f64 x]).run Tryz.prog w = .ok (.value (.int .u64 (x : Int))) w := by
  rw [run_callFunc_extern Tryz.func101 (by kernel_rfl) (by kernel_rfl) (by kernel_rfl) (e := Extern.MathFloatBits.float64bits) (by kernel_rfl)]
  rfl
theorem and_exp (x : Nat) (hx : x < 2 ^ 64) : bits .and .i64 ((x : Int) / 4503599627370496) 2047 = ((x / 2 ^ 52 % 2048 : Nat) : Int) := by
  show IntKind.i64.wrap ((BitVec.ofInt 64 ((x : Int) / 4503599627370496) &&& BitVec.ofInt 64 2047).toNat : Int) = _
  have h1 : BitVec.ofInt 64 ((x : Int) / 4503599627370496) = BitVec.ofNat 64 (x / 2 ^ 52) := BitVec.ofInt_natCast 64 (x / 2 ^ 52)
  have h2 : (BitVec.ofInt 64 2047 : BitVec 64) = BitVec.ofNat 64 (2 ^ 11 - 1) := by decide
  rw [h1, h2, BitVec.toNat_and, BitVec.toNat_ofNat, BitVec.toNat_ofNat, Nat.mod_eq_of_lt (show x / 2 ^ 52 < 2 ^ 64 by omega), Nat.mod_eq_of_lt (show 2 ^ 11 - 1 < 2 ^ 64 by decide), Nat.and_two_pow_sub_one_eq_mod]
  unfold IntKind.wrap
  simp [IntKind.signed, IntKind.bits]
  omega
theorem and_man (x : Nat) (hx : x < 2 ^ 64) : bits .and .u64 (x : Int) 4503599627370495 = ((x % 2 ^ 52 : Nat) : Int) := by
  show IntKind.u64.wrap ((BitVec.ofInt 64 (x : Int) &&& BitVec.ofInt 64 4503599627370495).toNat : Int) = _
  have h1 : BitVec.ofInt 64 (x : Int) = BitVec.ofNat 64 x := BitVec.ofInt_natCast 64 x
  have h2 : (BitVec.ofInt 64 4503599627370495 : BitVec 64) = BitVec.ofNat 64 (2 ^ 52 - 1) := by decide
  rw [h1, h2, BitVec.toNat_and, BitVec.toNat_ofNat, BitVec.toNat_ofNat, Nat.mod_eq_of_lt hx, Nat.mod_eq_of_lt (show 2 ^ 52 - 1 < 2 ^ 64 by decide), Nat.and_two_pow_sub_one_eq_mod]
  unfold IntKind.wrap
  simp [IntKind.signed, IntKind.bits]
  omega
theorem or_man (m : Nat) (hm : m < 2 ^ 52) : bits .or .u64 (m : Int) 4503599627370496 = ((m + 2 ^ 52 : Nat) : Int) := by
  show IntKind.u64.wrap ((BitVec.ofInt 64 (m : Int) ||| BitVec.ofInt 64 4503599627370496).toNat : Int) = _
  have h1 : BitVec.ofInt 64 (m : Int) = BitVec.ofNat 64 m := BitVec.ofInt_natCast 64 m
  have h2 : (BitVec.ofInt 64 4503599627370496 : BitVec 64) = BitVec.ofNat 64 (2 ^ 52) := by decide
  have h3 : m ||| 2 ^ 52 = m + 2 ^ 52 := by
    have := Nat.two_pow_add_eq_or_of_lt hm 1
    rw [Nat.mul_one] at this
    rw [Nat.or_comm, ← this, Nat.add_comm]
  rw [h1, h2, BitVec.toNat_or, BitVec.toNat_ofNat, BitVec.toNat_ofNat, Nat.mod_eq_of_lt (show m < 2 ^ 64 by omega), Nat.mod_eq_of_lt (show 2 ^ 52 < 2 ^ 64 by decide), h3]
  unfold IntKind.wrap
  simp [IntKind.signed, IntKind.bits]
  omega
theorem len_m (m : Nat) (h0 : 0 < m) (h1 : m < 2 ^ 53) : 1 ≤ Lib.bitLen m ∧ Lib.bitLen m ≤ 53 := by
  have := Lib.bitLenAux_bounds 64 m (by omega) (by omega)
  unfold Lib.bitLen
  refine ⟨this.1, ?_⟩
  rcases Nat.lt_or_ge 53 (Lib.bitLenAux 64 m) with h | h
  · exfalso
    have h2 : 2 ^ 53 ≤ 2 ^ (Lib.bitLenAux 64 m - 1) := Nat.pow_le_pow_right (by decide) (by omega)
    omega
  · exact h
theorem EF.re {w0 W : World} {N b : Nat} {v : Value} {l D : List UInt8} (h : EF w0 W N b v l D) : EF W W N b v l D := ⟨h.own, h.nb, Below.refl _ _, h.lt, h.nl, h.dg⟩
theorem ef_mk {w W2 W3 : World} {N c : Nat} {A : Option Addr} {D : List UInt8} (ho : Own w N (.slice A 0 c) []) (hN : N ≤ w.heap.size) (hb : Below w.heap.size w W2) (hlt : w.heap.size < W2.heap.size) (hg : W2.grownBy W3 (some w.heap.size)) (hd : ∀ j c, D[j]? = some c → W3.cell? ⟨w.heap.size, j, none⟩ = some (.int .u8 (c.toNat : Int))) : EF w W3 N w.heap.size (.slice A 0 c) [] D := by
  have hB : Below w.heap.size w W3 := hb.grown hg (by omega) (fun k hk => by injection hk with hk; omega)
  refine ⟨World.ownsRow.kept ho (grown_of_below hB) ?_, fun k hk => ?_, hB.mono hN, Nat.lt_of_lt_of_le hlt hg.size, hN, hd⟩
  · cases h : (Value.slice A 0 c).ownBlock with
    | none => exact .inl rfl
    | some k => exact .inr (by simp)
  · have := (World.ownsRow.lt ho k hk).2
    omega
/-- The text of a float by its sign, its exponent's word and its figures' word. -/
def ffS (neg : Bool) (r : Int × Int) : List UInt8 := efL neg (figD r.1.toNat) (nzF (figD r.1.toNat)) ((ndZ r.1.toNat : Int) + r.2)
def ffL (neg : Bool) (e m : Nat) : List UInt8 := ffS neg (sfE (IntKind.u64.wrap ((m : Int) * 2 ^ (64 - Lib.bitLen m))).toNat ((e : Int) + -1023 - (64 - (Lib.bitLen m : Int)) - 52))
set_option maxHeartbeats 2000000 in
theorem ftoa_core (x E M : Nat) (neg : Bool) (A : Option Addr) (c N : Nat) (w : World) (hE : bits .and .i64 ((x : Int) / 4503599627370496) 2047 = (E : Int)) (hM : bits .and .u64 (x : Int) 4503599627370495 = (M : Int)) (hg : ((x : Int) / 9223372036854775808 != 0) = neg) (hE2 : E ≤ 2046) (hM2 : M < 2 ^ 52) (hp : 0 < E ∨ 0 < M) (hx : x < 2 ^ 64) (ho : Own w N (.slice A 0 c) []) (hN : N ≤ w.heap.size) (ht : PTab w) (hts : NTabs w) :
    Calls Tryz.prog 78 #[.slice A 0 c, .float .f64 x, .int .u8 101, .int .i64 (-1)] w fun e w' => ∃ v', e = .returned v' ∧ Own w' N v' (ffL neg (if E = 0 then 1 else E) (if E = 0 then M else M + 2 ^ 52)) ∧ Below N w w' := by
  obtain ⟨TX, hTX⟩ : ∃ TX, ffL neg (if E = 0 then 1 else E) (if E = 0 then M else M + 2 ^ 52) = TX := ⟨_, rfl⟩
  rw [hTX]
  have HTX := Lib.hid hTX
  clear hTX
  have HB := bits101 x
  have HO := Lib.hid ho
  have HT := Lib.hid (And.intro ht hts)
  have HX := Lib.hid (And.intro hE (And.intro hM hg))
  have HR := Lib.hid (or_man M hM2)
  clear ho ht hts hE hM hg
  go_enter Tryz.func78, Tryz.ntmps78
  go_wp2_with fail
  go_quiet (fail)
  go_upto_if 67 with fail
  rw [HX.out.1, HX.out.2.1, HX.out.2.2]
  clear HX
  go_upto_if 78 with fail
  go_cut [14, 15] from 34 (fun a b W => W = w.drewN nq ∧ ∃ (e m : Nat), a = .int .i64 (e : Int) ∧ b = .int .u64 (m : Int) ∧ 1 ≤ e ∧ e ≤ 2046 ∧ 0 < m ∧ m < 9007199254740992 ∧ RowKit.Hid (e = (if E = 0 then 1 else E) ∧ m = (if E = 0 then M else M + 2 ^ 52)))
  case first =>
    by_cases h0 : E = 0
    · subst h0
      go_wp2_with fail
      go_meet
      case rel => exact ⟨rfl, 1, M, rfl, rfl, by omega, by omega, by omega, by omega, Lib.hid ⟨rfl, rfl⟩⟩
    · go_wp2_with fail
      rw [HR.out]
      go_meet
      case rel => exact ⟨rfl, E, M + 2 ^ 52, rfl, rfl, by omega, by omega, by omega, by omega, Lib.hid ⟨by rw [if_neg h0], by rw [if_neg h0]⟩⟩
  case rest =>
    obtain ⟨rfl, e, m, rfl, rfl, he1, he2, hm1, hm2, HW⟩ := hcut
    clear HR HB hM2 hp hE2
    have hlm := len_m m hm1 (by omega)
    have HL := Lib.hid (fun wx => Tryz.bits_Len64 (m : Int) wx (by omega) (by omega))
    rw [Int.toNat_natCast] at HL
    obtain ⟨L, hL⟩ : ∃ L, Lib.bitLen m = L := ⟨_, rfl⟩
    rw [hL] at HL hlm
    obtain ⟨S, hS⟩ : ∃ S : Nat, 64 - (L : Int) = (S : Int) := ⟨64 - L, by omega⟩
    have hS1 : 11 ≤ S := by omega
    have hS2 : S ≤ 63 := by omega
    have HS := Lib.hid hS
    obtain ⟨hL1, hL2⟩ := hlm
    clear hS
    go_upto_if 121 with fail
    go_wp2_with (go_at_call 96; refine (HL.out _).mono ?_; rintro en w2 ⟨rfl, rfl⟩)
    have HFF : RowKit.Hid (TX = ffS neg (sfE (IntKind.u64.wrap ((m : Int) * 2 ^ (64 - L))).toNat ((e : Int) + -1023 - (S : Int) - 52))) := Lib.hid (by
      rw [← HTX.out, ← HW.out.1, ← HW.out.2]
      unfold ffL
      rw [hL, HS.out])
    obtain ⟨F, hF, hF2⟩ := wrap_nat ((m : Int) * 2 ^ (64 - L))
    rw [hF, Int.toNat_natCast] at HFF
    rw [HS.out, hF]
    obtain ⟨ex, hex⟩ : ∃ ex, (e : Int) + -1023 - (S : Int) - 52 = ex := ⟨_, rfl⟩
    rw [hex] at HFF
    rw [hex]
    have hex1 : -1137 ≤ ex := by omega
    have hex2 : ex ≤ 1100 := by omega
    have hsw := sfE_w F ex
    have hsp := sfE_p F ex hex1 hex2
    have HSF := Lib.hid (fun wx hw => sf_all F ex wx hF2 hex1 hex2 hw)
    generalize sfE F ex = r at HFF hsw hsp HSF
    obtain ⟨r1, p⟩ := r
    dsimp only at hsw hsp HSF
    obtain ⟨d, rfl⟩ : ∃ d : Nat, r1 = (d : Int) := ⟨r1.toNat, by have := hsw.1; omega⟩
    have hd : d < 18446744073709551616 := by have := hsw.2; omega
    obtain ⟨hp1, hp2⟩ := hsp
    clear hsw hex hF HS HL HW hL
    rw [show (#[Value.int IntKind.u8 0, Value.int IntKind.u8 0, Value.int IntKind.u8 0, Value.int IntKind.u8 0, Value.int IntKind.u8 0, Value.int IntKind.u8 0, Value.int IntKind.u8 0, Value.int IntKind.u8 0, Value.int IntKind.u8 0, Value.int IntKind.u8 0, Value.int IntKind.u8 0, Value.int IntKind.u8 0, Value.int IntKind.u8 0, Value.int IntKind.u8 0, Value.int IntKind.u8 0, Value.int IntKind.u8 0, Value.int IntKind.u8 0, Value.int IntKind.u8 0, Value.int IntKind.u8 0, Value.int IntKind.u8 0, Value.int IntKind.u8 0, Value.int IntKind.u8 0, Value.int IntKind.u8 0, Value.int IntKind.u8 0, Value.int IntKind.u8 0, Value.int IntKind.u8 0, Value.int IntKind.u8 0, Value.int IntKind.u8 0, Value.int IntKind.u8 0, Value.int IntKind.u8 0, Value.int IntKind.u8 0, Value.int IntKind.u8 0] : Array Value) = Array.replicate 32 (.int .u8 0) from rfl]
    obtain ⟨W1, hW1⟩ : ∃ W1, (w.drewN nq).alloc (.cells (Array.replicate 32 (.int .u8 0)) 143) = W1 := ⟨_, rfl⟩
    rw [hW1]
    have hB1 : Below w.heap.size w W1 := by rw [← hW1]; exact ((Below.refl _ w).grown (grown_drewN w nq) (Nat.le_refl _) (fun k hk => by cases hk)).alloc (Nat.le_refl _) _
    have hR1 : Row W1 w.heap.size (Array.replicate 32 (.int .u8 0)) 143 := by rw [← hW1]; exact Row.new (w.drewN nq) _ 143
    have hS1' : w.heap.size < W1.heap.size := hR1.lt
    clear hW1
    refine (HSF.out W1 (HT.out.1.below hB1)).mono ?_
    rintro en W2 ⟨rfl, hB2⟩
    have hBB : Below w.heap.size w W2 := hB1.trans (hB2.mono (by omega))
    have HB2 := Lib.hid (And.intro hBB (And.intro (hR1.below hB2 hS1') (HT.out.2.below hBB)))
    have hlt2 : w.heap.size < W2.heap.size := Nat.lt_of_lt_of_le hS1' hB2.size
    clear hB1 hR1 hB2 hBB HSF HT hS1'
    have HND := Lib.hid (fun wx ht => nd_any d hd wx ht)
    have HSD := Lib.hid (fun wx hr => sd_any w.heap.size d p wx (Array.replicate 32 (.int .u8 0)) hd (by omega) (by omega) hr rfl)
    have hnd := ndZ_le d hd
    have hnz := nzF_le (figD d)
    rw [figD_len] at hnz
    have hDl : (figD d).length ≤ 20 := by rw [figD_len]; exact hnd
    have HLL := Lib.hid (And.intro hnz (And.intro hDl (figD_len d)))
    unfold ffS at HFF
    dsimp only at HFF
    rw [Int.toNat_natCast] at HFF
    have hnz2 : nzF (figD d) ≤ 20 := by omega
    clear hnz hDl
    generalize figD d = D at HFF HLL HSD hnz2 ⊢
    generalize nzF D = nz at HFF HLL HSD hnz2 ⊢
    generalize ndZ d = nd at HFF HLL HSD HND hnd ⊢
    go_wp2_with fail
    go_cut [22, 23] from 34 (fun a b W => a = .int .i64 ((nd : Int) + p) ∧ b = .int .i64 (nz : Int) ∧ RowKit.Hid (EF w W N w.heap.size (.slice A 0 c) [] D))
    case first =>
      go_region_with (first | (go_at_call 74; refine (HND.out W2.drew (HB2.out.2.2.block (Nat.le_refl _) (fun k hk => rfl))).mono ?_; rintro en w3 ⟨rfl, rfl⟩) | (go_at_call 106; refine (HSD.out W2.drew HB2.out.2.1).mono ?_; rintro en W3 ⟨rfl, hdg, hgg⟩))
      all_goals (go_wp2_with fail; go_meet; exact ⟨rfl, rfl, Lib.hid (ef_mk HO.out hN HB2.out.1 hlt2 ⟨hgg.os, hgg.tape, hgg.output, hgg.size, hgg.block⟩ hdg)⟩)
    case rest =>
      obtain ⟨rfl, rfl, HE⟩ := hcut
      go_wp2_with (go_at_call 104; refine (efg_any neg A c N w.heap.size nz ((nd : Int) + p) D _ HE.out.re HLL.out.2.1 (by rw [HLL.out.2.2]; exact HLL.out.1) (by omega) (by omega)).mono ?_; rintro en w5 ⟨v5, rfl, hE5⟩)
      go_ret
      refine ⟨v5, rfl, ?_, HE.out.bl.trans hE5.bl⟩
      rw [HFF.out]
      exact hE5.own
end Go.Proofs.YtfebfkbdbncihaaGreatDoor
