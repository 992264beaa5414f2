/- Contract of the law BitsWrites. -/
import Derived.Test.YtafipnhpoopljaaActs
import Derived.Test.YtafipnhpoopljaaRef
import Derived.Test.YtafipnhpoopljaaRdr
namespace Go.Proofs.Ytafipnhpoopljaa
open Go.RowKit

theorem RdA.at4 {w : World} {B : Nat} {A : Option Addr} {n : Nat} {l : List Raw} (h : RdA w B A n l) {k : Nat} (hk : k < n) :
    ∃ g o a, A = some ⟨g, o, none⟩ ∧ g < B ∧ l[k]? = some a ∧ w.cell? ⟨g, o + k * 4, none⟩ = some (.int .i64 a.k) ∧ w.cell? ⟨g, o + k * 4 + 1, none⟩ = some (.int .i64 a.n) ∧ w.cell? ⟨g, o + k * 4 + 2, none⟩ = some (.int .u32 (a.x : Int)) ∧ w.cell? ⟨g, o + k * 4 + 3, none⟩ = some (.slice a.A a.m a.c) := by
  obtain ⟨g, o, rfl, hg, hc⟩ := h.2 (by omega)
  have hl : k < l.length := by rw [h.1]; exact hk
  have hc := hc k _ (List.getElem?_eq_getElem hl)
  refine ⟨g, o, l[k], rfl, hg, List.getElem?_eq_getElem hl, hc 0 _ rfl, ?_, ?_, ?_⟩
  · rw [Nat.add_assoc]; exact hc 1 _ rfl
  · rw [Nat.add_assoc]; exact hc 2 _ rfl
  · rw [Nat.add_assoc]; exact hc 3 _ rfl
theorem RdA.under {w w' : World} {B : Nat} {A : Option Addr} {n : Nat} {l : List Raw} (h : RdA w B A n l) (hb : Below B w w') : RdA w' B A n l := by
  refine ⟨h.1, fun hn => ?_⟩
  obtain ⟨g, o, rfl, hg, hc⟩ := h.2 hn
  exact ⟨g, o, rfl, hg, fun i x hi j u hu => (hb.cell (p := ⟨g, o + (i * 4 + j), none⟩) hg).trans (hc i x hi j u hu)⟩

/-- What the loop keeps: the writer has the bits that the reference has. -/
structure LW (W : World) (g : Nat) (v u : Value) (m : List UInt8) (wr : World) : Prop where
  wm : WM wr g g v m
  own : Own wr g u m
  apart : u.ownBlock = none ∨ u.ownBlock ≠ v.ownBlock
  below : Below W.heap.size W wr
  base : W.heap.size ≤ g
  size : g ≤ wr.heap.size
theorem LW.notg {W : World} {g : Nat} {v u : Value} {m : List UInt8} {wr : World} (h : LW W g v u m wr) : u.ownBlock ≠ some g := own_notRow h.own h.wm.wr.row (by decide)
theorem LW.still {W : World} {g : Nat} {v u : Value} {m : List UInt8} {wr w' : World} (h : LW W g v u m wr) (hg : wr.grownBy w' none) : LW W g v u m w' :=
  ⟨h.wm.kept hg (by simp) (ne_none v), World.ownsRow.kept h.own hg (ne_none u), h.apart, h.below.trans ((below_make hg).mono h.below.size), h.base, Nat.le_trans h.size hg.size⟩
/-- A step of the writer, and then the reference's row. -/
theorem LW.mk' {W : World} {g : Nat} {v u v' u' : Value} {m m' : List UInt8} {w1 w2 : World} (hw : WM w2 g g v' m') (ho : Own w2 g u' m') (ha : u'.ownBlock = none ∨ u'.ownBlock ≠ v'.ownBlock) (hb : Below W.heap.size W w2) (h : LW W g v u m w1) (hs : w1.heap.size ≤ w2.heap.size) : LW W g v' u' m' w2 :=
  ⟨hw, ho, ha, hb, h.base, Nat.le_trans h.size hs⟩
theorem Own.st {w w' : World} {B g : Nat} {u v v' : Value} {l : List UInt8} (h : Own w B u l) (hS : St w g v w' v') (hg : u.ownBlock ≠ some g) (ha : u.ownBlock = none ∨ u.ownBlock ≠ v.ownBlock) : Own w' B u l := by
  refine ⟨h.1, ?_⟩
  rcases h.2 with hn | ⟨k, cap, cur, rfl, hb, hgg, rest⟩
  · exact .inl hn
  · refine .inr ⟨k, cap, cur, rfl, hb, ?_, rest⟩
    rw [hS.block k (Array.getElem?_eq_some_iff.1 hgg).1 (fun e => hg (by rw [← e]; rfl)) (fun e => by
      rcases ha with h2 | h2
      · cases h2
      · exact h2 (by rw [e]; rfl))]
    exact hgg
theorem Fresh.apart {w : World} {v v' u : Value} (h : Fresh w v v') (hu : ∀ k, u.ownBlock = some k → k < w.heap.size) (ha : u.ownBlock = none ∨ u.ownBlock ≠ v.ownBlock) : u.ownBlock = none ∨ u.ownBlock ≠ v'.ownBlock := by
  rcases ha with ha | ha
  · exact .inl ha
  · refine .inr fun e => ?_
    rcases h with h | ⟨k, h, hk⟩
    · exact ha (e.trans h)
    · have := hu k (e.trans h)
      omega

theorem own_base {w : World} {B B' : Nat} {v : Value} {l : List UInt8} (h : Own w B v l) (hb : B' ≤ B) : Own w B' v l := by
  refine ⟨h.1, ?_⟩
  rcases h.2 with h1 | ⟨g, cap, cur, h1, h2, h3⟩
  · exact .inl h1
  · exact .inr ⟨g, cap, cur, h1, by omega, h3⟩

/-- The act's kind. -/
def kd (x : Int) : Nat := (IntKind.u64.wrap x % 4).toNat
theorem kd_lt (x : Int) : kd x < 4 := by unfold kd; omega
theorem kd_eq (x : Int) : IntKind.u64.wrap x % 4 = (kd x : Int) := by
  have h0 := wrap_u64_nonneg x
  unfold kd
  omega
theorem kd_eq' (x : Int) : (IntKind.u64.wrap x).tmod 4 = (kd x : Int) := by
  have h0 := wrap_u64_nonneg x
  rw [Int.tmod_eq_emod_of_nonneg h0, kd_eq]

theorem LW.refput {W : World} {g : Nat} {v u u5 : Value} {m : List UInt8} {w4 w5 : World} (h : LW W g v u m w4) (hf : u5 = u ∨ ∀ b, u5.ownBlock = some b → w4.heap.size ≤ b) (hg : w4.grownBy w5 none) :
    WM w5 g g v m ∧ (u5.ownBlock = none ∨ u5.ownBlock ≠ v.ownBlock) ∧ Below W.heap.size W w5 ∧ g ≤ w5.heap.size := by
  refine ⟨h.wm.kept hg (by simp) (ne_none v), ?_, h.below.trans ((below_make hg).mono h.below.size), Nat.le_trans h.size hg.size⟩
  rcases hf with rfl | hf
  · exact h.apart
  · cases hu : u5.ownBlock with
    | none => exact .inl rfl
    | some b =>
      refine .inr fun e => ?_
      have h1 := hf b hu
      have h2 := (World.ownsRow.lt h.wm.wr.own b e.symm).2
      omega
theorem apart_symm {u v : Value} (h : u.ownBlock = none ∨ u.ownBlock ≠ v.ownBlock) : v.ownBlock = none ∨ v.ownBlock ≠ u.ownBlock := by
  rcases h with h | h
  · rw [h]; exact ne_none v
  · exact .inr (Ne.symm h)
theorem LW.grew {W wr w' : World} {g : Nat} {v u u' : Value} {m l : List UInt8} (hbase : W.heap.size ≤ g) (hw : WM wr g g v m) (ho : Own wr g u l) (ha : u.ownBlock = none ∨ u.ownBlock ≠ v.ownBlock) (hb : Below W.heap.size W wr) (hs : g ≤ wr.heap.size) (hg : wr.grownBy w' u.ownBlock) (hf : Fresh wr u u') :
    WM w' g g v m ∧ (u'.ownBlock = none ∨ u'.ownBlock ≠ v.ownBlock) ∧ Below W.heap.size W w' ∧ g ≤ w'.heap.size := by
  refine ⟨hw.kept hg (Ne.symm (own_notRow ho hw.wr.row (by decide))) (apart_symm ha), ?_, hb.grown hg hb.size (fun k hk => Nat.le_trans hbase (World.ownsRow.lt ho k hk).1), Nat.le_trans hs hg.size⟩
  rcases hf with hf | ⟨k, hf, hk⟩
  · rw [hf]; exact ha
  · refine .inr fun e => ?_
    have := (World.ownsRow.lt hw.wr.own k (e.symm.trans hf)).2
    omega
theorem LW.wrote {W : World} {g : Nat} {v v6 u5 : Value} {m m5 : List UInt8} {w5 w6 : World} (hbase : W.heap.size ≤ g) (hW5 : WM w5 g g v m) (ho : Own w5 g u5 m5) (ha : u5.ownBlock = none ∨ u5.ownBlock ≠ v.ownBlock) (hb : Below W.heap.size W w5) (hgs : g ≤ w5.heap.size) (hW6 : WM w6 g g v6 m5) (hS : St w5 g v w6 v6) :
    LW W g v6 u5 m5 w6 :=
  ⟨hW6, ho.st hS (own_notRow ho hW5.wr.row (by decide)) ha, hS.fresh.apart (fun k hk => (World.ownsRow.lt ho k hk).2) ha, hb.trans ((hS.below hW5.wr hgs (Nat.le_refl _)).mono hbase), hbase, Nat.le_trans hgs hS.size⟩

set_option maxHeartbeats 2000000 in
set_option maxRecDepth 10000 in
theorem writes_any (A : Option Addr) (n c : Nat) (l : List Raw) (w : World) (hr : RdA w w.heap.size A n l) (hx : ∀ a ∈ l, RawOk w w.heap.size a) :
    Calls Try.prog 4 #[.slice A n c] w fun e w' => e = .returned (.bool true) ∧ Below w.heap.size w w' := by
  have HL := Lib.hid hr.1
  have HR := Lib.hid hr
  have HXX := Lib.hid hx
  clear hr hx
  go_enter Try.func4, Try.ntmps4
  go_wp2_with fail
  refine (alive_true w).mono ?_
  rintro e w1 ⟨rfl, hb1⟩
  have HB1 := Lib.hid hb1
  clear hb1
  by_cases hn : 60 < n
  · have hd : decide (60 < (n : Int)) = true := decide_eq_true (by omega)
    go_wp2_with fail
    go_ret
    exact ⟨rfl, HB1.out⟩
  · have hd : decide (60 < (n : Int)) = false := decide_eq_false (by omega)
    go_wp2_with fail
    refine (newWriter_any w1).mono ?_
    rintro e w2 ⟨rfl, hW2, hg2⟩
    have hsz2 := hg2.size
    have hI : LW w w1.heap.size (.slice none 0 0) (.slice (some ⟨w2.heap.size, 0, none⟩) 0 0) [] (w2.alloc (.cells #[] 5)) :=
      ⟨hW2.still ((Below.refl _ _).alloc (Nat.le_refl _) _), own_base (Own.lit w2 #[] [] 0 rfl rfl (by decide)) hsz2, .inr (by simp [Value.ownBlock]), (HB1.out.trans ((below_make hg2).mono HB1.out.size)).alloc (Nat.le_trans HB1.out.size hsz2) _, HB1.out.size, by simp; omega⟩
    have HI := Lib.hid hI
    clear hI hW2 hg2 hsz2 HB1
    go_wp2_with fail
    generalize w1.heap.size = g at HI ⊢
    generalize (Value.slice (some ⟨w2.heap.size, 0, none⟩) 0 0) = u0 at HI ⊢
    generalize w2.alloc (.cells #[] 5) = w3 at HI ⊢
    go_loopw [4, 20] (fun u ix wr => ∃ (k : Nat) (v : Value) (m : List UInt8), k ≤ n ∧ ix = .int .i64 k ∧ m.length ≤ 300 * k ∧ LW w g v u m wr) (fun _ ix _ => n - (intOf ix).toNat)
    case atStart => exact ⟨0, _, _, by omega, rfl, by simp, HI.out⟩
    case round =>
      clear HI
      obtain ⟨k, v, m, hk, rfl, hmk, hI⟩ := hrel
      have HI := Lib.hid hI
      clear hI
      by_cases hlt : k < n
      · obtain ⟨ob, off, a, rfl, hob, ha, c0, c1, c2, c3⟩ := (HR.out.under HI.out.below).at4 hlt
        have HOK := Lib.hid (HXX.out a (List.mem_of_getElem? ha))
        have d0 : decide ((k : Int) < (n : Int)) = true := decide_eq_true (by omega)
        clear ha
        by_cases hm30 : 30 < a.m
        · have d1 : decide (30 < (a.m : Int)) = true := decide_eq_true (by omega)
          have HB := Lib.hid (HI.out.below.alloc HI.out.below.size (.cells #[.int .i64 a.k, .int .i64 a.n, .int .u32 (a.x : Int), .slice a.A a.m a.c] 32))
          go_wp2_with fail
          go_ret
          exact ⟨rfl, HB.out⟩
        · have d1 : decide (30 < (a.m : Int)) = false := decide_eq_false (by omega)
          have e0 := kd_eq' a.k
          obtain ⟨Au, cu, hu⟩ := HI.out.own.slice
          subst hu
          go_upto_region 15 with fail
          have hrow := Row.new wr #[.int .i64 a.k, .int .i64 a.n, .int .u32 (a.x : Int), .slice a.A a.m a.c] 32
          have hI4 := HI.out.still (World.grownBy_alloc wr (.cells #[.int .i64 a.k, .int .i64 a.n, .int .u32 (a.x : Int), .slice a.A a.m a.c] 32) none)
          generalize wr.alloc (.cells #[.int .i64 a.k, .int .i64 a.n, .int .u32 (a.x : Int), .slice a.A a.m a.c] 32) = w4 at hrow hI4 ⊢
          generalize wr.heap.size = H at hrow ⊢
          have hc1 := hrow.cell 1
          have hc2 := hrow.cell 2
          have hc3 := hrow.cell 3
          change w4.cell? ⟨H, 1, none⟩ = some (.int .i64 a.n) at hc1
          change w4.cell? ⟨H, 2, none⟩ = some (.int .u32 (a.x : Int)) at hc2
          change w4.cell? ⟨H, 3, none⟩ = some (.slice a.A a.m a.c) at hc3
          have HROW := Lib.hid hrow
          have H4 := Lib.hid hI4
          clear c0 c1 c2 c3 HI hrow hI4 e0 hob
          have hkd := kd_lt a.k
          generalize kd a.k = q at hkd ⊢
          obtain rfl | rfl | rfl | rfl : q = 0 ∨ q = 1 ∨ q = 2 ∨ q = 3 := by omega
          · go_wp2_with fail
            refine (rput_any g Au m.length cu m a.x a.n false w4 H4.out.own H4.out.size HOK.out.x (by omega)).mono ?_
            rintro e w5 ⟨u5, rfl, ho5, hf5, hg5⟩
            obtain ⟨m5, hm5e⟩ : ∃ m5, m ++ putB false a.x a.n = m5 := ⟨_, rfl⟩
            have hm5 : m5.length ≤ 300 * (k + 1) := by rw [← hm5e, List.length_append]; have := putB_length_le false a.x a.n; omega
            rw [hm5e] at ho5
            obtain ⟨A5, c5, hu5⟩ := ho5.slice
            subst hu5
            have hrp := H4.out.refput hf5 hg5
            have hrow5 := HROW.out.grown hg5 (by simp)
            have hc1 := hrow5.cell 1
            have hc2 := hrow5.cell 2
            change w5.cell? ⟨H, 1, none⟩ = some (.int .i64 a.n) at hc1
            change w5.cell? ⟨H, 2, none⟩ = some (.int .u32 (a.x : Int)) at hc2
            have HRP := Lib.hid (And.intro ho5 hrp)
            have HM := Lib.hid hm5e
            clear ho5 hf5 hg5 hrp hrow5 hm5e
            go_wp2_with fail
            refine (put_any g g a.x a.n m v w5 HRP.out.2.1 HRP.out.2.2.2.2 (by omega)).mono ?_
            rintro e w6 ⟨rfl, v6, hW6, hS6⟩
            rw [HM.out] at hW6
            have hI5 := LW.wrote H4.out.base HRP.out.2.1 HRP.out.1 HRP.out.2.2.1 HRP.out.2.2.2.1 HRP.out.2.2.2.2 hW6 hS6
            clear hW6 hS6 hc1 hc2 hc3 HRP H4 HROW
            obtain ⟨ε, hε⟩ : ∃ ε, putE a.x a.n = ε := ⟨_, rfl⟩
            rw [hε]
            have H5 := Lib.hid hI5
            have hm5b : m5.length ≤ 18300 := by omega
            clear hI5
            go_wp2_with fail
            refine (num_any ε _).mono ?_
            rintro e w6 ⟨rfl, rfl⟩
            go_wp2_with fail
            refine (wlen_any g g m5 _ _ H5.out.wm (by omega)).mono ?_
            rintro e w7 ⟨rfl, rfl⟩
            have H7 := Lib.hid (H5.out.still (grown_drewN w6 1))
            rw [← World.drew_is_drewN] at H7
            generalize w6.drew = w7 at H7 ⊢
            clear H5
            go_wp2_with fail
            refine (wtext_any g g m5 _ w7 H7.out.wm (by omega)).mono ?_
            rintro e w8 ⟨t8, rfl, ho8, hg8⟩
            obtain ⟨T, hT⟩ : ∃ T, (textB m5).length = T := ⟨_, rfl⟩
            obtain ⟨At, ct, ht8⟩ := ho8.slice
            rw [hT] at ht8
            subst ht8
            have H8 := Lib.hid (And.intro (H7.out.still hg8) ho8)
            clear ho8 hg8 H7
            go_wp2_with fail
            refine (rtext_any A5 m5.length c5 m5 w8 H8.out.1.own.rd.2 H8.out.1.wm.bin (by omega)).mono ?_
            rintro e w9 ⟨t9, rfl, hG9⟩
            obtain ⟨Ar, cr, ht9⟩ := hG9.own.slice
            rw [hT] at ht9
            subst ht9
            have H9 := Lib.hid (And.intro (H8.out.1.still (grown_of_below hG9.below)) (And.intro ((H8.out.2.rd.2.below hG9.below).more hG9.below.size) hG9.own.rd.2))
            clear hG9 H8
            go_wp2_with fail
            refine (same_any At T ct Ar T cr (textB m5) w9 H9.out.2.1 H9.out.2.2).mono ?_
            rintro e w10 ⟨rfl, rfl⟩
            go_wp2_with fail
            go_roundw
            case rel => exact ⟨k + 1, _, m5, by omega, by go_num, hm5, H9.out.1⟩
            case measure => simp [intOf]; omega
          · go_wp2_with fail
            refine (rput_any g Au m.length cu m a.x a.n true w4 H4.out.own H4.out.size HOK.out.x (by omega)).mono ?_
            rintro e w5 ⟨u5, rfl, ho5, hf5, hg5⟩
            obtain ⟨m5, hm5e⟩ : ∃ m5, m ++ putB true a.x a.n = m5 := ⟨_, rfl⟩
            have hm5 : m5.length ≤ 300 * (k + 1) := by rw [← hm5e, List.length_append]; have := putB_length_le true a.x a.n; omega
            rw [hm5e] at ho5
            obtain ⟨A5, c5, hu5⟩ := ho5.slice
            subst hu5
            have hrp := H4.out.refput hf5 hg5
            have hrow5 := HROW.out.grown hg5 (by simp)
            have hc1 := hrow5.cell 1
            have hc2 := hrow5.cell 2
            change w5.cell? ⟨H, 1, none⟩ = some (.int .i64 a.n) at hc1
            change w5.cell? ⟨H, 2, none⟩ = some (.int .u32 (a.x : Int)) at hc2
            have HRP := Lib.hid (And.intro ho5 hrp)
            have HM := Lib.hid hm5e
            clear ho5 hf5 hg5 hrp hrow5 hm5e
            go_wp2_with fail
            refine (code_any g g a.x a.n m v w5 HRP.out.2.1 HRP.out.2.2.2.2 HOK.out.x (by omega)).mono ?_
            rintro e w6 ⟨rfl, v6, hW6, hS6⟩
            rw [HM.out] at hW6
            have hI5 := LW.wrote H4.out.base HRP.out.2.1 HRP.out.1 HRP.out.2.2.1 HRP.out.2.2.2.1 HRP.out.2.2.2.2 hW6 hS6
            clear hW6 hS6 hc1 hc2 hc3 HRP H4 HROW
            obtain ⟨ε, hε⟩ : ∃ ε, putE a.x a.n = ε := ⟨_, rfl⟩
            rw [hε]
            have H5 := Lib.hid hI5
            have hm5b : m5.length ≤ 18300 := by omega
            clear hI5
            go_wp2_with fail
            refine (num_any ε _).mono ?_
            rintro e w6 ⟨rfl, rfl⟩
            go_wp2_with fail
            refine (wlen_any g g m5 _ _ H5.out.wm (by omega)).mono ?_
            rintro e w7 ⟨rfl, rfl⟩
            have H7 := Lib.hid (H5.out.still (grown_drewN w6 1))
            rw [← World.drew_is_drewN] at H7
            generalize w6.drew = w7 at H7 ⊢
            clear H5
            go_wp2_with fail
            refine (wtext_any g g m5 _ w7 H7.out.wm (by omega)).mono ?_
            rintro e w8 ⟨t8, rfl, ho8, hg8⟩
            obtain ⟨T, hT⟩ : ∃ T, (textB m5).length = T := ⟨_, rfl⟩
            obtain ⟨At, ct, ht8⟩ := ho8.slice
            rw [hT] at ht8
            subst ht8
            have H8 := Lib.hid (And.intro (H7.out.still hg8) ho8)
            clear ho8 hg8 H7
            go_wp2_with fail
            refine (rtext_any A5 m5.length c5 m5 w8 H8.out.1.own.rd.2 H8.out.1.wm.bin (by omega)).mono ?_
            rintro e w9 ⟨t9, rfl, hG9⟩
            obtain ⟨Ar, cr, ht9⟩ := hG9.own.slice
            rw [hT] at ht9
            subst ht9
            have H9 := Lib.hid (And.intro (H8.out.1.still (grown_of_below hG9.below)) (And.intro ((H8.out.2.rd.2.below hG9.below).more hG9.below.size) hG9.own.rd.2))
            clear hG9 H8
            go_wp2_with fail
            refine (same_any At T ct Ar T cr (textB m5) w9 H9.out.2.1 H9.out.2.2).mono ?_
            rintro e w10 ⟨rfl, rfl⟩
            go_wp2_with fail
            go_roundw
            case rel => exact ⟨k + 1, _, m5, by omega, by go_num, hm5, H9.out.1⟩
            case measure => simp [intOf]; omega
          · rw [show ((2 : Nat) : Int) = 2 from rfl]
            go_wp2_with fail
            go_loopw [4, 10] (fun u ix wq => ∃ j : Nat, j ≤ gap m.length ∧ ix = .int .i64 j ∧ WM wq g g v m ∧ Own wq g u (m ++ List.replicate j 0) ∧ (u.ownBlock = none ∨ u.ownBlock ≠ v.ownBlock) ∧ Below w.heap.size w wq ∧ g ≤ wq.heap.size) (fun _ ix _ => gap m.length - (intOf ix).toNat)
            case atStart => exact ⟨0, by omega, rfl, H4.out.wm, by simpa using H4.out.own, H4.out.apart, H4.out.below, H4.out.size⟩
            case round =>
              obtain ⟨j, hj, rfl, hr1, hr2, hr3, hr4, hr5⟩ := hrel
              obtain ⟨m5, hm5e⟩ : ∃ m5, m ++ List.replicate j 0 = m5 := ⟨_, rfl⟩
              have HL5 : RowKit.Hid (m5.length = m.length + j) := Lib.hid (by rw [← hm5e]; simp)
              have hgap : gap m.length < 8 := by unfold gap; omega
              rw [hm5e] at hr2
              obtain ⟨A5, c5, hu5⟩ := hr2.slice
              subst hu5
              have hb5 : m5.length ≤ 20000 := by have := HL5.out; omega
              by_cases hjt : j < gap m.length
              · have d8 : ((m5.length : Int) % 8 != 0) = true := by rw [bne_iff_ne]; have := HL5.out; unfold gap at hjt; omega
                have HRS := Lib.hid (And.intro hr1 (And.intro hr2 (And.intro hr3 (And.intro hr4 hr5))))
                have HM := Lib.hid hm5e
                clear hr1 hr2 hr3 hr4 hr5 hm5e
                go_wp2_with (at_builtin; refine push8 wr rfl (.tmp 80) (.tmp 81) rfl g _ m5 [0] _ 1 rfl rfl HRS.out.2.1 rfl rfl HRS.out.2.2.2.2 (by omega) ?_)
                intro v' w' ho hg' hf'
                have HGR := Lib.hid (And.intro ho (LW.grew H4.out.base HRS.out.1 HRS.out.2.1 HRS.out.2.2.1 HRS.out.2.2.2.1 HRS.out.2.2.2.2 hg' hf'))
                clear ho hg' hf' HRS
                go_wp2_with fail
                go_roundw
                case rel => exact ⟨j + 1, by omega, by go_num, HGR.out.2.1, by rw [List.replicate_succ', ← List.append_assoc, HM.out]; exact HGR.out.1, HGR.out.2.2.1, HGR.out.2.2.2.1, HGR.out.2.2.2.2⟩
                case measure => simp [intOf]; omega
              · obtain rfl : j = gap m.length := by omega
                have d8 : ((m5.length : Int) % 8 != 0) = false := by rw [bne_eq_false_iff_eq]; have := HL5.out; unfold gap at this; omega
                have HRS := Lib.hid (And.intro hr1 (And.intro hr2 (And.intro hr3 (And.intro hr4 hr5))))
                have HM := Lib.hid hm5e
                have hm5 : m5.length ≤ 300 * (k + 1) := by have := HL5.out; omega
                obtain ⟨r, hr⟩ : ∃ r, gap m.length = r := ⟨_, rfl⟩
                have HGP := Lib.hid hr
                rw [hr]
                clear hr1 hr2 hr3 hr4 hr5 hm5e hr hj hjt
                go_wp2_with fail
                refine (walign_any g g m v wr HRS.out.1).mono ?_
                rintro e w6 ⟨rfl, hW6, hS6⟩
                rw [HM.out] at hW6
                rw [HGP.out]
                have hI5 := LW.wrote H4.out.base HRS.out.1 HRS.out.2.1 HRS.out.2.2.1 HRS.out.2.2.2.1 HRS.out.2.2.2.2 hW6 hS6
                clear hW6 hS6 hc1 hc2 hc3 HRS H4 HROW
                have H5 := Lib.hid hI5
                have hm5b : m5.length ≤ 18300 := by omega
                clear hI5
                go_wp2_with fail
                refine (num_any 0 _).mono ?_
                rintro e w6 ⟨rfl, rfl⟩
                go_wp2_with fail
                refine (wlen_any g g m5 _ _ H5.out.wm (by omega)).mono ?_
                rintro e w7 ⟨rfl, rfl⟩
                have H7 := Lib.hid (H5.out.still (grown_drewN w6 1))
                rw [← World.drew_is_drewN] at H7
                generalize w6.drew = w7 at H7 ⊢
                clear H5
                go_wp2_with fail
                refine (wtext_any g g m5 _ w7 H7.out.wm (by omega)).mono ?_
                rintro e w8 ⟨t8, rfl, ho8, hg8⟩
                obtain ⟨T, hT⟩ : ∃ T, (textB m5).length = T := ⟨_, rfl⟩
                obtain ⟨At, ct, ht8⟩ := ho8.slice
                rw [hT] at ht8
                subst ht8
                have H8 := Lib.hid (And.intro (H7.out.still hg8) ho8)
                clear ho8 hg8 H7
                go_wp2_with fail
                refine (rtext_any A5 m5.length c5 m5 w8 H8.out.1.own.rd.2 H8.out.1.wm.bin (by omega)).mono ?_
                rintro e w9 ⟨t9, rfl, hG9⟩
                obtain ⟨Ar, cr, ht9⟩ := hG9.own.slice
                rw [hT] at ht9
                subst ht9
                have H9 := Lib.hid (And.intro (H8.out.1.still (grown_of_below hG9.below)) (And.intro ((H8.out.2.rd.2.below hG9.below).more hG9.below.size) hG9.own.rd.2))
                clear hG9 H8
                go_wp2_with fail
                refine (same_any At T ct Ar T cr (textB m5) w9 H9.out.2.1 H9.out.2.2).mono ?_
                rintro e w10 ⟨rfl, rfl⟩
                go_wp2_with fail
                go_roundw
                case rel => exact ⟨k + 1, _, m5, by omega, by go_num, hm5, H9.out.1⟩
                case measure => simp [intOf]; omega
          · have hrd4 : Rd w4 w4.heap.size a.A a.m (us a.l) := (HOK.out.rd.below H4.out.below).more H4.out.below.size
            have HRD := Lib.hid hrd4
            have hla : a.l.length = a.m := by have := hrd4.1; rwa [us_length] at this
            have HLA := Lib.hid hla
            clear hrd4 hla
            by_cases h8 : m.length % 8 = 0
            · have d8 : ((m.length : Int) % 8 != 0) = false := by rw [bne_eq_false_iff_eq]; omega
              have H8 := Lib.hid h8
              have hmb : m.length ≤ 18000 := by omega
              clear h8
              go_wp2_with fail
              refine (rof_any a.A a.m a.c a.l w4 HRD.out (by omega)).mono ?_
              rintro e w5 ⟨b5, rfl, hG5⟩
              obtain ⟨Ab, cb, hb5⟩ := hG5.own.slice
              obtain ⟨nb, hnb⟩ : ∃ nb, (bitsL a.l).length = nb := ⟨_, rfl⟩
              rw [hnb] at hb5
              subst hb5
              have hnb8 : nb = 8 * a.m := by rw [← hnb, bitsL_length, HLA.out]
              have hrow5 := HROW.out.grown (grown_of_below hG5.below) (by simp)
              have hI5 := H4.out.still (grown_of_below hG5.below)
              have HG5 := Lib.hid (And.intro hI5 (And.intro hG5.own.rd.2 (And.intro (noCap hG5.own) (And.intro hrow5 (HRD.out.below hG5.below)))))
              have hnb240 : nb ≤ 240 := by omega
              have HNB := Lib.hid hnb8
              clear hrow5 hI5 hG5 hnb hnb8 HROW H4 HRD hc1 hc2 hc3
              go_wp2_with (at_builtin; refine cat8 w5 rfl (.tmp 37) (.tmp 40) rfl g w5.heap.size _ m (bitsL a.l) Ab nb cb rfl rfl HG5.out.1.own HG5.out.2.1 HG5.out.2.2.1 HG5.out.1.size (by omega) ?_)
              intro u6 w6 ho6 hg6 hf6
              obtain ⟨m5, hm5e⟩ : ∃ m5, m ++ bitsL a.l = m5 := ⟨_, rfl⟩
              have hm5 : m5.length ≤ 300 * (k + 1) := by rw [← hm5e, List.length_append, bitsL_length, HLA.out]; omega
              rw [hm5e] at ho6
              have hgr := LW.grew HG5.out.1.base HG5.out.1.wm HG5.out.1.own HG5.out.1.apart HG5.out.1.below HG5.out.1.size hg6 hf6
              obtain ⟨A5, c5, hu6⟩ := ho6.slice
              subst hu6
              have hrow6 := HG5.out.2.2.2.1.grown hg6 (Ne.symm (own_notRow HG5.out.1.own HG5.out.2.2.2.1 (by decide)))
              have hc3 := hrow6.cell 3
              change w6.cell? ⟨H, 3, none⟩ = some (.slice a.A a.m a.c) at hc3
              have HGR := Lib.hid (And.intro ho6 hgr)
              have HM := Lib.hid hm5e
              have HBS := Lib.hid HG5.out.1.base
              have HRD := Lib.hid ((HOK.out.rd.below hgr.2.2.1).more hgr.2.2.1.size)
              clear ho6 hg6 hf6 hgr hrow6 hm5e HG5
              go_wp2_with fail
              refine (wbytes_any g g m v a.A a.m a.c a.l w6 HGR.out.2.1 HGR.out.2.2.2.2 HRD.out HOK.out.cap H8.out (by omega) (by omega)).mono ?_
              rintro e w7 ⟨rfl, v7, hW7, hS7⟩
              rw [HM.out] at hW7
              have hI5 := LW.wrote HBS.out HGR.out.2.1 HGR.out.1 HGR.out.2.2.1 HGR.out.2.2.2.1 HGR.out.2.2.2.2 hW7 hS7
              clear hW7 hS7 hc3 HGR HRD
              have H5 := Lib.hid hI5
              have hm5b : m5.length ≤ 18300 := by omega
              clear hI5
              go_wp2_with fail
              refine (num_any 0 _).mono ?_
              rintro e w6 ⟨rfl, rfl⟩
              go_wp2_with fail
              refine (wlen_any g g m5 _ _ H5.out.wm (by omega)).mono ?_
              rintro e w7 ⟨rfl, rfl⟩
              have H7 := Lib.hid (H5.out.still (grown_drewN w6 1))
              rw [← World.drew_is_drewN] at H7
              generalize w6.drew = w7 at H7 ⊢
              clear H5
              go_wp2_with fail
              refine (wtext_any g g m5 _ w7 H7.out.wm (by omega)).mono ?_
              rintro e w8 ⟨t8, rfl, ho8, hg8⟩
              obtain ⟨T, hT⟩ : ∃ T, (textB m5).length = T := ⟨_, rfl⟩
              obtain ⟨At, ct, ht8⟩ := ho8.slice
              rw [hT] at ht8
              subst ht8
              have H8 := Lib.hid (And.intro (H7.out.still hg8) ho8)
              clear ho8 hg8 H7
              go_wp2_with fail
              refine (rtext_any A5 m5.length c5 m5 w8 H8.out.1.own.rd.2 H8.out.1.wm.bin (by omega)).mono ?_
              rintro e w9 ⟨t9, rfl, hG9⟩
              obtain ⟨Ar, cr, ht9⟩ := hG9.own.slice
              rw [hT] at ht9
              subst ht9
              have H9 := Lib.hid (And.intro (H8.out.1.still (grown_of_below hG9.below)) (And.intro ((H8.out.2.rd.2.below hG9.below).more hG9.below.size) hG9.own.rd.2))
              clear hG9 H8
              go_wp2_with fail
              refine (same_any At T ct Ar T cr (textB m5) w9 H9.out.2.1 H9.out.2.2).mono ?_
              rintro e w10 ⟨rfl, rfl⟩
              go_wp2_with fail
              go_roundw
              case rel => exact ⟨k + 1, _, m5, by omega, by go_num, hm5, H9.out.1⟩
              case measure => simp [intOf]; omega
            · have d8 : ((m.length : Int) % 8 != 0) = true := by rw [bne_iff_ne]; omega
              have hmb : m.length ≤ 18000 := by omega
              have H8 := Lib.hid h8
              clear h8
              go_wp2_with fail
              refine (wbytes_form g g m v _ w4 H4.out.wm H8.out).mono ?_
              rintro e w5 ⟨rfl, rfl⟩
              obtain ⟨m5, hm5e⟩ : ∃ m5, m = m5 := ⟨_, rfl⟩
              subst hm5e
              have hm5 : m.length ≤ 300 * (k + 1) := by omega
              have hI5 := H4.out
              clear hc1 hc2 hc3 H4 HROW HRD
              have H5 := Lib.hid hI5
              have hmb5 : m.length ≤ 18300 := by omega
              clear hI5
              go_wp2_with fail
              refine (num_any 2 _).mono ?_
              rintro e w6 ⟨rfl, rfl⟩
              go_wp2_with fail
              refine (wlen_any g g m _ _ H5.out.wm (by omega)).mono ?_
              rintro e w7 ⟨rfl, rfl⟩
              have H7 := Lib.hid (H5.out.still (grown_drewN w6 1))
              rw [← World.drew_is_drewN] at H7
              generalize w6.drew = w7 at H7 ⊢
              clear H5
              go_wp2_with fail
              refine (wtext_any g g m _ w7 H7.out.wm (by omega)).mono ?_
              rintro e w8 ⟨t8, rfl, ho8, hg8⟩
              obtain ⟨T, hT⟩ : ∃ T, (textB m).length = T := ⟨_, rfl⟩
              obtain ⟨At, ct, ht8⟩ := ho8.slice
              rw [hT] at ht8
              subst ht8
              have H8 := Lib.hid (And.intro (H7.out.still hg8) ho8)
              clear ho8 hg8 H7
              go_wp2_with fail
              refine (rtext_any Au m.length cu m w8 H8.out.1.own.rd.2 H8.out.1.wm.bin (by omega)).mono ?_
              rintro e w9 ⟨t9, rfl, hG9⟩
              obtain ⟨Ar, cr, ht9⟩ := hG9.own.slice
              rw [hT] at ht9
              subst ht9
              have H9 := Lib.hid (And.intro (H8.out.1.still (grown_of_below hG9.below)) (And.intro ((H8.out.2.rd.2.below hG9.below).more hG9.below.size) hG9.own.rd.2))
              clear hG9 H8
              go_wp2_with fail
              refine (same_any At T ct Ar T cr (textB m) w9 H9.out.2.1 H9.out.2.2).mono ?_
              rintro e w10 ⟨rfl, rfl⟩
              go_wp2_with fail
              go_roundw
              case rel => exact ⟨k + 1, _, m, by omega, by go_num, hm5, H9.out.1⟩
              case measure => simp [intOf]; omega
      · have d0 : decide ((k : Int) < (n : Int)) = false := decide_eq_false (by omega)
        go_wp2_with fail
        go_ret
        exact ⟨rfl, HI.out.below⟩
end Go.Proofs.Ytafipnhpoopljaa
