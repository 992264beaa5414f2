/- Contract of the law CrcFinds. -/
import Derived.Test.YtbeabjhlnkaojaaDoorCuts
import Derived.Laws.OwnMore
namespace Go.Proofs.YtbeabjhlnkaojaaDoor
open Go.RowKit

/-- What the turning loop keeps. -/
structure FR (w : World) (B : Nat) (v : Value) (l : List UInt8) (F : Nat) (t : UInt32) (k : Nat) (L : List UInt8) (wr : World) : Prop where
  own : Own wr B v L
  below : Below w.heap.size w wr
  turned : Turned l F t k L

theorem first_is (a : Int) (n : Nat) (hn : n ≠ 0) : ∃ F : Nat, (IntKind.u64.wrap a).tmod (8 * (n : Int)) = (F : Int) ∧ F < 8 * n := by
  have h0 : 0 ≤ IntKind.u64.wrap a := by rw [IntKind.wrap_u64]; omega
  refine ⟨((IntKind.u64.wrap a).tmod (8 * (n : Int))).toNat, ?_, ?_⟩
  · have := Int.tmod_nonneg (8 * (n : Int)) h0
    omega
  · have := Int.tmod_lt_of_pos (IntKind.u64.wrap a) (show 0 < 8 * (n : Int) by omega)
    omega
theorem bit_is (t : UInt32) (k : Nat) : (bits .and .u32 ((t.toNat / 2 ^ k : Nat) : Int) 1 == 1) = bitOf t k := by
  have hlt : t.toNat / 2 ^ k < 4294967296 := Nat.lt_of_le_of_lt (Nat.div_le_self _ _) (u32_lt t)
  have := u32_and_nat (t.toNat / 2 ^ k) 1 hlt (by decide)
  unfold bitOf
  rw [show ((1 : Nat) : Int) = 1 from rfl] at this
  rw [this, Nat.and_one_is_mod]
  generalize t.toNat / 2 ^ k % 2 = m
  by_cases h : m = 1
  · subst h; rfl
  · rw [show (m == 1) = false by simp [h], beq_eq_false_iff_ne]; omega
theorem test_is (t : UInt32) (k : Nat) : (bits .and .u32 ((t.toNat : Int) / 2 ^ k) 1 == 1) = bitOf t k := by
  rw [← bit_is]; simp

theorem xor8 (x : UInt8) (s : Nat) : bits .xor .u8 (x.toNat : Int) (2 ^ s % 256) = ((x ^^^ bit8 s).toNat : Int) := by
  have h1 : ((2 : Int) ^ s % 256) = (((bit8 s).toNat : Nat) : Int) := by
    rw [bit8, UInt8.toNat_ofNat']
    simp
  rw [h1, u8_xor_nat _ _ x.toNat_lt (bit8 s).toNat_lt, UInt8.toNat_xor]

theorem FR.turn {w : World} {B g n c F k : Nat} {l L : List UInt8} {t : UInt32} {wr : World} (h : FR w B (.slice (some ⟨g, 0, none⟩) n c) l F t k L wr) (hl : l.length = n) (hb : bitOf t k = true) (hk : k < 32) (hp : F + k < 8 * n)
    (hB : w.heap.size ≤ B) (x : UInt8) (hx : L.getD ((F + k) / 8) 0 = x) :
    FR w B (.slice (some ⟨g, 0, none⟩) n c) l F t (k + 1) (L.set ((F + k) / 8) (x ^^^ bit8 ((F + k) % 8))) (wr.setCell ⟨g, (F + k) / 8, none⟩ (.int .u8 (bits .xor .u8 (x.toNat : Int) (2 ^ ((F + k) % 8) % 256)))) := by
  have hLn : L.length = n := h.turned.len.trans hl
  have hown := h.own
  unfold Own at hown
  rw [hLn] at hown
  obtain ⟨h1, h2⟩ := World.ownsRow.stored hown ((F + k) / 8) (U8 (x ^^^ bit8 ((F + k) % 8)))
  rw [xor8 x]
  refine ⟨?_, h.own.keeps h2 h.below hB, ?_⟩
  · unfold Own
    rw [List.length_set, hLn, show us (L.set ((F + k) / 8) (x ^^^ bit8 ((F + k) % 8))) = (us L).set ((F + k) / 8) (U8 (x ^^^ bit8 ((F + k) % 8))) by simp [us]]
    exact h1
  · have := h.turned.turn hb hk (by rw [hl]; exact hp)
    rwa [hx] at this

theorem FR.rd {w : World} {B g n c F k : Nat} {l L : List UInt8} {t : UInt32} {wr : World} (h : FR w B (.slice (some ⟨g, 0, none⟩) n c) l F t k L wr) : Rd wr wr.heap.size (some ⟨g, 0, none⟩) n (us L) := h.own.rd.2

theorem ne32 (x y : UInt32) : ((x.toNat : Int) != (y.toNat : Int)) = (x != y) := by
  by_cases h : x = y
  · subst h; simp
  · have h1 : x.toNat ≠ y.toNat := fun e => h (UInt32.toNat_inj.1 e)
    rw [show (x != y) = true by simp [h], bne_iff_ne]
    omega

/-- What stands behind the loop: the two sums are held against each other. -/
theorem FR.ends {w : World} {B g n c F k : Nat} {l L : List UInt8} {t : UInt32} {wr : World} (h : FR w B (.slice (some ⟨g, 0, none⟩) n c) l F t k L wr) : (((addP 0 L).toNat : Int) != ((addP 0 l).toNat : Int)) = some' t k := by
  rw [ne32]; exact h.turned.tells 0

set_option maxHeartbeats 400000 in
theorem finds_any (A : Option Addr) (n c : Nat) (l : List UInt8) (a : Int) (t : UInt32) (w : World)
    (hr : Rd w w.heap.size A n (us l)) (hA : A = none → c = 0) (ht : Tabs w) :
    Calls Tryd.prog 5 #[.slice A n c, .int .i64 a, U32 t] w fun e w' => e = .returned (.bool true) ∧ Below w.heap.size w w' := by
  have hl : l.length = n := by have := hr.1; rwa [us_length] at this
  have HL := Lib.hid hl
  have HA := Lib.hid hA
  have HR := Lib.hid hr
  have HT := Lib.hid ht
  clear hr ht hA hl
  go_enter Tryd.func5, Tryd.ntmps5
  go_wp2_with fail
  refine (alive_true w HT.out).mono ?_
  rintro e w1 ⟨rfl, hb1⟩
  have HB1 := Lib.hid hb1
  clear hb1
  by_cases hn : n ≤ 2000
  · have hd : decide (2000 < (n : Int)) = false := decide_eq_false (by omega)
    by_cases hn0 : n = 0
    · have hd' : ((n : Int) == 0) = true := by rw [beq_iff_eq]; omega
      go_wp2_with fail
      go_ret
      exact ⟨rfl, HB1.out⟩
    · have hd' : ((n : Int) == 0) = false := by rw [beq_eq_false_iff_ne]; omega
      by_cases ht0 : t.toNat = 0
      · have hd2 : ((t.toNat : Int) == 0) = true := by rw [beq_iff_eq]; omega
        go_wp2_with fail
        go_ret
        exact ⟨rfl, HB1.out⟩
      · have hd2 : ((t.toNat : Int) == 0) = false := by rw [beq_eq_false_iff_ne]; omega
        have hb2 : Below w.heap.size w (w1.alloc (.cells #[] 5)) := HB1.out.alloc HB1.out.size _
        have HO0 := Lib.hid (Own.lit w1 #[] [] 0 rfl rfl (by decide))
        have HB2 := Lib.hid hb2
        clear hb2
        go_wp2_with (at_builtin; refine cat8 (w1.alloc (.cells #[] 5)) rfl (.tmp 25) (.tmp 26) rfl w1.heap.size w.heap.size _ [] l A n c rfl rfl HO0.out (HR.out.below HB2.out) HA.out (by simp) (by simp; omega) ?_)
        intro v2 w2 ho2 hg2
        have hb3 : Below w.heap.size w w2 := HO0.out.keeps hg2 HB2.out HB1.out.size
        change Own w2 w1.heap.size v2 l at ho2
        have HO2 := Lib.hid ho2
        have HB3 := Lib.hid hb3
        clear ho2 hg2 hb3 HO0 HB2
        have hn8 : 8 * (n : Int) ≠ 0 := by omega
        obtain ⟨F, hF, hFl⟩ := first_is a n hn0
        obtain ⟨g, c2, _, rfl, _, _⟩ := HO2.out.at8 (k := 0) (by have := HL.out; omega)
        rw [HL.out] at HO2 ⊢
        have hK : FR w w1.heap.size (.slice (some ⟨g, 0, none⟩) n c2) l F t 0 l w2 := ⟨HO2.out, HB3.out, Turned.start l F t⟩
        have HK := Lib.hid hK
        clear hK HO2 HB3
        go_wp2_with fail
        go_loopw [9, 10] (fun ch i wr => ∃ (k : Nat) (L : List UInt8), k ≤ 32 ∧ ch = .bool (some' t k) ∧ i = .int .i64 k ∧ FR w w1.heap.size (.slice (some ⟨g, 0, none⟩) n c2) l F t k L wr) (fun _ i _ => 32 - (intOf i).toNat)
        case atStart => exact ⟨0, l, by omega, rfl, rfl, HK.out⟩
        case round =>
          clear HK
          obtain ⟨k, L, hk, rfl, rfl, hK⟩ := hrel
          by_cases hkt : k < 32
          · have hdk : decide ((k : Int) < 32) = true := decide_eq_true (by omega)
            by_cases hpt : F + k < 8 * n
            · have hdp : decide ((F : Int) + (k : Int) < 8 * (n : Int)) = true := decide_eq_true (by omega)
              have e2 := test_is t k
              have hLn : L.length = n := hK.turned.len.trans HL.out
              have hiL : (F + k) / 8 < L.length := by omega
              have hown := hK.own
              unfold Own at hown
              rw [hLn] at hown
              have hc := World.ownsRow.cellAt hown ((F + k) / 8) (by omega)
              have hf := World.ownsRow.frozenAt hown ((F + k) / 8)
              have hx : (us L)[(F + k) / 8]? = some (.int .u8 ((L.getD ((F + k) / 8) 0).toNat : Int)) := by simp [us, List.getElem?_eq_getElem hiL]
              rw [hx] at hc
              obtain ⟨x, HX⟩ : ∃ x, RowKit.Hid (L.getD ((F + k) / 8) 0 = x) := ⟨_, Lib.hid rfl⟩
              rw [HX.out] at hc
              clear hown hx
              have HK := Lib.hid hK
              obtain ⟨ch, HCH⟩ : ∃ ch, RowKit.Hid (some' t k = ch) := ⟨_, Lib.hid rfl⟩
              rw [HCH.out]
              cases hbt : bitOf t k with
              | true =>
                rw [hbt] at e2
                have HS : RowKit.Hid (some' t (k + 1) = true) := Lib.hid (some_true t k hkt hbt)
                have HK2 := Lib.hid (HK.out.turn HL.out hbt hkt hpt HB1.out.size x HX.out)
                clear hbt hK HK
                go_wp2_with fail
                go_roundw
                case rel => exact ⟨k + 1, _, by omega, by rw [HS.out], by simp, HK2.out⟩
                case measure => simp [intOf]; omega
              | false =>
                rw [hbt] at e2
                have HS : RowKit.Hid (some' t (k + 1) = ch) := Lib.hid (by rw [some_same t k hbt, HCH.out])
                have HK2 := Lib.hid (FR.mk HK.out.own HK.out.below (HK.out.turned.stay hbt))
                clear hbt hK HK hc hf HX
                go_wp2_with fail
                go_roundw
                case rel => exact ⟨k + 1, L, by omega, by rw [HS.out], by simp, HK2.out⟩
                case measure => simp [intOf]; omega
            · have hdp : decide ((F : Int) + (k : Int) < 8 * (n : Int)) = false := decide_eq_false (by omega)
              have he := hK.ends
              obtain ⟨ch, HCH⟩ : ∃ ch, RowKit.Hid (some' t k = ch) := ⟨_, Lib.hid rfl⟩
              rw [HCH.out] at he ⊢
              have HK := Lib.hid hK
              clear hK
              go_wp2_with fail
              refine (of_any _ n c2 L wr HK.out.rd (HT.out.below HK.out.below HT.out.size) (by omega)).mono ?_
              rintro e wr2 ⟨rfl, rfl⟩
              go_wp2_with fail
              refine (of_any A n c l wr2 (HR.out.next HK.out.below) (HT.out.below HK.out.below HT.out.size) (by omega)).mono ?_
              rintro e wr ⟨rfl, rfl⟩
              go_wp2_with fail
              go_ret
              exact ⟨by simp, HK.out.below⟩
          · have hdk : decide ((k : Int) < 32) = false := decide_eq_false (by omega)
            have he := hK.ends
            obtain ⟨ch, HCH⟩ : ∃ ch, RowKit.Hid (some' t k = ch) := ⟨_, Lib.hid rfl⟩
            rw [HCH.out] at he ⊢
            have HK := Lib.hid hK
            clear hK
            go_wp2_with fail
            refine (of_any _ n c2 L wr HK.out.rd (HT.out.below HK.out.below HT.out.size) (by omega)).mono ?_
            rintro e wr2 ⟨rfl, rfl⟩
            go_wp2_with fail
            refine (of_any A n c l wr2 (HR.out.next HK.out.below) (HT.out.below HK.out.below HT.out.size) (by omega)).mono ?_
            rintro e wr ⟨rfl, rfl⟩
            go_wp2_with fail
            go_ret
            exact ⟨by simp, HK.out.below⟩
  · have hd : decide (2000 < (n : Int)) = true := decide_eq_true (by omega)
    go_wp2_with fail
    go_ret
    exact ⟨rfl, HB1.out⟩

end Go.Proofs.YtbeabjhlnkaojaaDoor
