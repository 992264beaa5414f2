/- Contracts of utf8.FullRuneInString, mustStand. -/
import Derived.Test.YtanmkddmebhdpaaDoorUtx
namespace Go.Proofs.YtanmkddmebhdpaaDoor
set_option maxRecDepth 20000
open Go.RowKit Go.Lib

/-- The two tables of unicode/utf8 stand. -/
structure TabsU (w : World) : Prop where
  f : ∀ c, c < 256 → w.cell? ⟨0, c, none⟩ = some (.int .u8 (firstT c : Int))
  a : ∀ i, i < 16 → w.cell? ⟨1, 2 * i, none⟩ = some (.int .u8 (accLo i : Int)) ∧ w.cell? ⟨1, 2 * i + 1, none⟩ = some (.int .u8 (accHi i : Int))
  size : 2 ≤ w.heap.size
theorem TabsU.below {w w' : World} {B : Nat} (h : TabsU w) (hb : Below B w w') (hB : 2 ≤ B) : TabsU w' :=
  ⟨fun c hc => (hb.cell (p := ⟨0, c, none⟩) (show 0 < B by omega)).trans (h.f c hc), fun i hi => ⟨(hb.cell (p := ⟨1, 2 * i, none⟩) (show 1 < B by omega)).trans (h.a i hi).1, (hb.cell (p := ⟨1, 2 * i + 1, none⟩) (show 1 < B by omega)).trans (h.a i hi).2⟩, Nat.le_trans h.size hb.size⟩
/-- Whether bytes are a whole sign, or can be none. -/
def fullP (l : List UInt8) : Bool :=
  if l = [] then false
  else if firstT (l.getD 0 0).toNat % 8 ≤ l.length then true
  else if 1 < l.length ∧ ((l.getD 1 0).toNat < accLo (firstT (l.getD 0 0).toNat / 16) ∨ accHi (firstT (l.getD 0 0).toNat / 16) < (l.getD 1 0).toNat) then true
  else if 2 < l.length ∧ ((l.getD 2 0).toNat < 128 ∨ 191 < (l.getD 2 0).toNat) then true
  else false
theorem firstT_lt (b : Nat) : firstT b < 256 := by
  unfold firstT
  repeat' split
  all_goals omega
theorem idx_d (s : ByteArray) (l : List UInt8) (h : s.data.toList = l) (j : Nat) (hj : j < l.length) (w : World) : (Instr.index 9 (.string s) (.int .i64 (j : Int))).run Tryd.prog w = .ok (.int .u8 ((l.getD j 0).toNat : Int)) w :=
  idx_at s l h j _ (by rw [List.getD_eq_getElem?_getD, List.getElem?_eq_getElem hj]; rfl) w
theorem u8_and7 (x : Nat) (h : x < 256) : bits .and .u8 (x : Int) 7 = ((x % 8 : Nat) : Int) := by
  have := u8_and_nat x 7 h (by decide)
  rw [show (7 : Nat) = 2 ^ 3 - 1 from rfl, Nat.and_two_pow_sub_one_eq_mod] at this
  exact this
/-- A block of two cells. -/
structure Row1 (w : World) (q : Nat) (a b : Value) : Prop where
  lo : w.cell? ⟨q, 0, none⟩ = some a
  hi : w.cell? ⟨q, 1, none⟩ = some b
theorem Row1.new (w : World) (a b : Value) : Row1 (w.alloc (.cells #[a, b] 69)) w.heap.size a b := by
  have h := heap_alloc_new w (.cells #[a, b] 69)
  exact ⟨by simp only [World.cell?, h]; rfl, by simp only [World.cell?, h]; rfl⟩
set_option maxHeartbeats 4000000 in
theorem full_any (s : ByteArray) (l : List UInt8) (w : World) (h : s.data.toList = l) (ht : TabsU w) :
    Calls Tryd.prog 36 #[.string s] w fun e w' => e = .returned (.bool (fullP l)) ∧ Below w.heap.size w w' := by
  have hsz0 : s.size = l.length := by rw [Lib.size_eq, h]
  obtain ⟨m, hm⟩ : ∃ m, l.length = m := ⟨_, rfl⟩
  have hsz : s.size = m := hsz0.trans hm
  by_cases h0 : l = []
  · have HE : RowKit.Hid (fullP l = false) := Lib.hid (by unfold fullP; rw [if_pos h0])
    rw [HE.out]
    subst h0
    rw [List.length_nil] at hm
    subst hm
    clear h hsz0
    go_enter Tryd.func36, Tryd.ntmps36
    go_wp2_with fail
    go_ret
    exact ⟨rfl, Below.refl _ _⟩
  have hpos : 0 < m := by rw [← hm]; exact List.length_pos_iff.2 h0
  obtain ⟨b, hb⟩ : ∃ b, (l.getD 0 0).toNat = b := ⟨_, rfl⟩
  have hb2 : b < 256 := by rw [← hb]; exact (l.getD 0 0).toNat_lt
  have k0 : ∀ w, (Instr.index 9 (.string s) (.int .i64 0)).run Tryd.prog w = .ok (.int .u8 (b : Int)) w := fun w => by rw [← hb]; exact idx_d s l h 0 (by omega) w
  obtain ⟨x, hx⟩ : ∃ x, firstT b = x := ⟨_, rfl⟩
  have hx2 : x < 256 := by rw [← hx]; exact firstT_lt b
  have c0 : w.cell? ⟨0, b, none⟩ = some (.int .u8 (x : Int)) := by rw [← hx]; exact ht.f b hb2
  obtain ⟨z, hz⟩ : ∃ z, x % 8 = z := ⟨_, rfl⟩
  have e7 : bits .and .u8 (x : Int) 7 = (z : Int) := by rw [u8_and7 x hx2, hz]
  have e8 : (x : Int) % 8 = (z : Int) := by omega
  have hne : ((m : Int) == 0) = false := by rw [beq_eq_false_iff_ne]; omega
  have hb3 : (b : Int) < 256 := by omega
  by_cases hzm : z ≤ m
  · have HE : RowKit.Hid (fullP l = true) := Lib.hid (by unfold fullP; rw [if_neg h0, hb, hx, hz, hm, if_pos hzm])
    rw [HE.out]
    have d1 : decide (z ≤ m) = true := decide_eq_true hzm
    clear h hsz0 h0 hm ht hz hx hb hzm
    go_enter Tryd.func36, Tryd.ntmps36
    go_wp2_with fail
    go_ret
    exact ⟨rfl, Below.refl _ _⟩
  · have d1 : decide (z ≤ m) = false := decide_eq_false hzm
    obtain ⟨i, hi⟩ : ∃ i, x / 16 = i := ⟨_, rfl⟩
    have hi2 : i < 16 := by omega
    have e16 : (x : Int) / 16 = (i : Int) := by omega
    obtain ⟨lo, hlo⟩ : ∃ lo, accLo i = lo := ⟨_, rfl⟩
    obtain ⟨hh, hhh⟩ : ∃ hh, accHi i = hh := ⟨_, rfl⟩
    have c1 := (ht.a i hi2).1
    have c2 := (ht.a i hi2).2
    rw [hlo] at c1
    rw [hhh] at c2
    have c3 : w.cell? ⟨1, i * 2, none⟩ = some (.int .u8 (lo : Int)) := by rw [Nat.mul_comm]; exact c1
    have c4 : w.cell? ⟨1, i * 2 + 1, none⟩ = some (.int .u8 (hh : Int)) := by rw [Nat.mul_comm]; exact c2
    have hi3 : (i : Int) < 16 := by omega
    have HBA : RowKit.Hid (Below w.heap.size w (w.alloc (.cells #[.int .u8 (lo : Int), .int .u8 (hh : Int)] 69)) ∧ Row1 (w.alloc (.cells #[.int .u8 (lo : Int), .int .u8 (hh : Int)] 69)) w.heap.size (.int .u8 (lo : Int)) (.int .u8 (hh : Int))) := Lib.hid ⟨below_make (World.grownBy_alloc w _ none), Row1.new w _ _⟩
    by_cases hm1 : 1 < m
    · obtain ⟨b1, hb1⟩ : ∃ b1, (l.getD 1 0).toNat = b1 := ⟨_, rfl⟩
      have k1 : ∀ w, (Instr.index 9 (.string s) (.int .i64 1)).run Tryd.prog w = .ok (.int .u8 (b1 : Int)) w := fun w => by rw [← hb1]; exact idx_d s l h 1 (by omega) w
      have d2 : decide (1 < m) = true := decide_eq_true hm1
      have d2i : decide ((1 : Int) < (m : Int)) = true := decide_eq_true (by omega)
      by_cases hbad : b1 < lo ∨ hh < b1
      · have HE : RowKit.Hid (fullP l = true) := Lib.hid (by unfold fullP; rw [if_neg h0, hb, hx, hz, hm, if_neg hzm, hi, hb1, hlo, hhh, if_pos ⟨hm1, hbad⟩])
        rw [HE.out]
        clear h hsz0 h0 hm ht hz hx hb hi hlo hhh hb1
        by_cases hg : b1 < lo
        · have g1 : decide (b1 < lo) = true := decide_eq_true hg
          clear hbad
          go_enter Tryd.func36, Tryd.ntmps36
          go_wp2_with fail
          have r0 := HBA.out.2.lo
          have r1 := HBA.out.2.hi
          have HB := Lib.hid HBA.out.1
          clear HBA c0 c1 c2 c3 c4
          generalize w.alloc (.cells #[.int .u8 (lo : Int), .int .u8 (hh : Int)] 69) = w2 at HB r0 r1 ⊢
          go_quiet (fail)
          have HB2 : RowKit.Hid (Below w.heap.size w (w2.drewN nq)) := Lib.hid (HB.out.trans ((below_make (grown_drewN w2 nq)).mono HB.out.size))
          clear r0 r1
          generalize w2.drewN nq = w3 at HB2 ⊢
          go_wp2_with fail
          go_ret
          exact ⟨rfl, HB2.out⟩
        · have g1 : decide (b1 < lo) = false := decide_eq_false hg
          have g2 : decide (hh < b1) = true := decide_eq_true (by omega)
          clear hbad
          go_enter Tryd.func36, Tryd.ntmps36
          go_wp2_with fail
          have r0 := HBA.out.2.lo
          have r1 := HBA.out.2.hi
          have HB := Lib.hid HBA.out.1
          clear HBA c0 c1 c2 c3 c4
          generalize w.alloc (.cells #[.int .u8 (lo : Int), .int .u8 (hh : Int)] 69) = w2 at HB r0 r1 ⊢
          go_quiet (fail)
          have HB2 : RowKit.Hid (Below w.heap.size w (w2.drewN nq)) := Lib.hid (HB.out.trans ((below_make (grown_drewN w2 nq)).mono HB.out.size))
          clear r0 r1
          generalize w2.drewN nq = w3 at HB2 ⊢
          go_wp2_with fail
          go_ret
          exact ⟨rfl, HB2.out⟩
      · have g1 : decide (b1 < lo) = false := decide_eq_false (by omega)
        have g2 : decide (hh < b1) = false := decide_eq_false (by omega)
        by_cases hm2 : 2 < m
        · obtain ⟨b2, hb2'⟩ : ∃ b2, (l.getD 2 0).toNat = b2 := ⟨_, rfl⟩
          have k2 : ∀ w, (Instr.index 9 (.string s) (.int .i64 2)).run Tryd.prog w = .ok (.int .u8 (b2 : Int)) w := fun w => by rw [← hb2']; exact idx_d s l h 2 (by omega) w
          have d3 : decide (2 < m) = true := decide_eq_true hm2
          have d3i : decide ((2 : Int) < (m : Int)) = true := decide_eq_true (by omega)
          by_cases hbad2 : b2 < 128 ∨ 191 < b2
          · have HE : RowKit.Hid (fullP l = true) := Lib.hid (by unfold fullP; rw [if_neg h0, hb, hx, hz, hm, if_neg hzm, hi, hb1, hlo, hhh, if_neg (fun e => hbad e.2), hb2', if_pos ⟨hm2, hbad2⟩])
            rw [HE.out]
            clear h hsz0 h0 hm ht hz hx hb hi hlo hhh hb1 hb2' hbad
            by_cases hg : b2 < 128
            · have g3 : decide (b2 < 128) = true := decide_eq_true hg
              have g4 : decide ((b2 : Int) < 128) = true := decide_eq_true (by omega)
              clear hbad2
              go_enter Tryd.func36, Tryd.ntmps36
              go_wp2_with fail
              have r0 := HBA.out.2.lo
              have r1 := HBA.out.2.hi
              have HB := Lib.hid HBA.out.1
              clear HBA c0 c1 c2 c3 c4
              generalize w.alloc (.cells #[.int .u8 (lo : Int), .int .u8 (hh : Int)] 69) = w2 at HB r0 r1 ⊢
              go_quiet (fail)
              have HB2 : RowKit.Hid (Below w.heap.size w (w2.drewN nq)) := Lib.hid (HB.out.trans ((below_make (grown_drewN w2 nq)).mono HB.out.size))
              clear r0 r1
              generalize w2.drewN nq = w3 at HB2 ⊢
              go_wp2_with fail
              go_ret
              exact ⟨rfl, HB2.out⟩
            · have g3 : decide (b2 < 128) = false := decide_eq_false hg
              have g4 : decide ((b2 : Int) < 128) = false := decide_eq_false (by omega)
              have g5 : decide (191 < b2) = true := decide_eq_true (by omega)
              have g6 : decide ((191 : Int) < (b2 : Int)) = true := decide_eq_true (by omega)
              clear hbad2
              go_enter Tryd.func36, Tryd.ntmps36
              go_wp2_with fail
              have r0 := HBA.out.2.lo
              have r1 := HBA.out.2.hi
              have HB := Lib.hid HBA.out.1
              clear HBA c0 c1 c2 c3 c4
              generalize w.alloc (.cells #[.int .u8 (lo : Int), .int .u8 (hh : Int)] 69) = w2 at HB r0 r1 ⊢
              go_quiet (fail)
              have HB2 : RowKit.Hid (Below w.heap.size w (w2.drewN nq)) := Lib.hid (HB.out.trans ((below_make (grown_drewN w2 nq)).mono HB.out.size))
              clear r0 r1
              generalize w2.drewN nq = w3 at HB2 ⊢
              go_wp2_with fail
              go_ret
              exact ⟨rfl, HB2.out⟩
          · have HE : RowKit.Hid (fullP l = false) := Lib.hid (by unfold fullP; rw [if_neg h0, hb, hx, hz, hm, if_neg hzm, hi, hb1, hlo, hhh, if_neg (fun e => hbad e.2), hb2', if_neg (fun e => hbad2 e.2)])
            rw [HE.out]
            clear h hsz0 h0 hm ht hz hx hb hi hlo hhh hb1 hb2' hbad
            have g3 : decide (b2 < 128) = false := decide_eq_false (by omega)
            have g4 : decide ((b2 : Int) < 128) = false := decide_eq_false (by omega)
            have g5 : decide (191 < b2) = false := decide_eq_false (by omega)
            have g6 : decide ((191 : Int) < (b2 : Int)) = false := decide_eq_false (by omega)
            clear hbad2
            go_enter Tryd.func36, Tryd.ntmps36
            go_wp2_with fail
            have r0 := HBA.out.2.lo
            have r1 := HBA.out.2.hi
            have HB := Lib.hid HBA.out.1
            clear HBA c0 c1 c2 c3 c4
            generalize w.alloc (.cells #[.int .u8 (lo : Int), .int .u8 (hh : Int)] 69) = w2 at HB r0 r1 ⊢
            go_quiet (fail)
            have HB2 : RowKit.Hid (Below w.heap.size w (w2.drewN nq)) := Lib.hid (HB.out.trans ((below_make (grown_drewN w2 nq)).mono HB.out.size))
            clear r0 r1
            generalize w2.drewN nq = w3 at HB2 ⊢
            go_wp2_with fail
            go_ret
            exact ⟨rfl, HB2.out⟩
        · have d3 : decide (2 < m) = false := decide_eq_false hm2
          have d3i : decide ((2 : Int) < (m : Int)) = false := decide_eq_false (by omega)
          have HE : RowKit.Hid (fullP l = false) := Lib.hid (by unfold fullP; rw [if_neg h0, hb, hx, hz, hm, if_neg hzm, hi, hb1, hlo, hhh, if_neg (fun e => hbad e.2), if_neg (fun e => hm2 e.1)])
          rw [HE.out]
          clear h hsz0 h0 hm ht hz hx hb hi hlo hhh hb1 hbad
          go_enter Tryd.func36, Tryd.ntmps36
          go_wp2_with fail
          have r0 := HBA.out.2.lo
          have r1 := HBA.out.2.hi
          have HB := Lib.hid HBA.out.1
          clear HBA c0 c1 c2 c3 c4
          generalize w.alloc (.cells #[.int .u8 (lo : Int), .int .u8 (hh : Int)] 69) = w2 at HB r0 r1 ⊢
          go_quiet (fail)
          have HB2 : RowKit.Hid (Below w.heap.size w (w2.drewN nq)) := Lib.hid (HB.out.trans ((below_make (grown_drewN w2 nq)).mono HB.out.size))
          clear r0 r1
          generalize w2.drewN nq = w3 at HB2 ⊢
          go_wp2_with fail
          go_ret
          exact ⟨rfl, HB2.out⟩
    · have d2 : decide (1 < m) = false := decide_eq_false hm1
      have d2i : decide ((1 : Int) < (m : Int)) = false := decide_eq_false (by omega)
      have d3 : decide (2 < m) = false := decide_eq_false (by omega)
      have d3i : decide ((2 : Int) < (m : Int)) = false := decide_eq_false (by omega)
      have HE : RowKit.Hid (fullP l = false) := Lib.hid (by unfold fullP; rw [if_neg h0, hb, hx, hz, hm, if_neg hzm, if_neg (fun e => hm1 e.1), if_neg (fun e => by have := e.1; omega)])
      rw [HE.out]
      clear h hsz0 h0 hm ht hz hx hb hi hlo hhh
      go_enter Tryd.func36, Tryd.ntmps36
      go_wp2_with fail
      have r0 := HBA.out.2.lo
      have r1 := HBA.out.2.hi
      have HB := Lib.hid HBA.out.1
      clear HBA c0 c1 c2 c3 c4
      generalize w.alloc (.cells #[.int .u8 (lo : Int), .int .u8 (hh : Int)] 69) = w2 at HB r0 r1 ⊢
      go_quiet (fail)
      have HB2 : RowKit.Hid (Below w.heap.size w (w2.drewN nq)) := Lib.hid (HB.out.trans ((below_make (grown_drewN w2 nq)).mono HB.out.size))
      clear r0 r1
      generalize w2.drewN nq = w3 at HB2 ⊢
      go_wp2_with fail
      go_ret
      exact ⟨rfl, HB2.out⟩
end Go.Proofs.YtanmkddmebhdpaaDoor
