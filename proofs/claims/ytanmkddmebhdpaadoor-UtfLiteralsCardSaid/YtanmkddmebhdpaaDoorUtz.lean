/- Contract of literal. -/
import Derived.Test.YtanmkddmebhdpaaDoorUty
import Derived.Test.YtanmkddmebhdpaaDoorUts
namespace Go.Proofs.YtanmkddmebhdpaaDoor
set_option maxRecDepth 20000
open Go.RowKit Go.Lib

theorem dec_low (b : UInt8) (t : List UInt8) (k : Nat) (hk : k < 128) : (decodeL (b :: t)).1 = k ↔ b.toNat = k := by
  by_cases hb : b.toNat < 128
  · rw [decodeL_ascii b t hb]
  · constructor
    · intro h
      exfalso
      by_cases h1 : decodeL (b :: t) = (65533, 1)
      · rw [h1] at h
        simp at h
        omega
      · obtain ⟨c, r, hc, hd, he⟩ := enc_dec (b :: t) (by simp) h1
        rw [hd] at h
        have h : c = k := h
        unfold encB at he
        rw [if_pos (by omega)] at he
        injection he with he _
        rw [he, nb_toNat (by omega)] at hb
        omega
    · intro h; omega
theorem litF_at (n : Nat) (l t : List UInt8) (u : Nat) (hl : l ≠ []) (h1 : (decodeL l).1 ≠ 34) (h2 : (decodeL l).1 ≠ 92) :
    litF fullP (n + 1) l t u = match standF l with
      | .error k => .error k
      | .ok _ => litF fullP n (l.drop (decodeL l).2) (t ++ encB (decodeL l).1) (u + (decodeL l).2) := by
  rw [litF_succ, if_neg hl, if_neg h1, if_neg h2]
  unfold standF
  by_cases h3 : (decodeL l).1 < 32
  · rw [if_pos h3, if_pos h3]
  · rw [if_neg h3, if_neg h3]
    by_cases h4 : decodeL l = (65533, 1)
    · rw [if_pos h4, if_pos h4]
    · rw [if_neg h4, if_neg h4]
theorem stand_ok {l : List UInt8} (hl : l ≠ []) (h : standF l = .ok ()) : ∃ c, okc c ∧ decodeL l = (c, widC c) ∧ widC c ≤ l.length := by
  unfold standF at h
  split at h
  · cases h
  · split at h
    · cases h
    · rename_i h4
      obtain ⟨c, r, hc, hd, he⟩ := enc_dec l hl h4
      refine ⟨c, hc, hd, ?_⟩
      have := congrArg List.length he
      rw [List.length_append, encB_length] at this
      omega
/-- What a literal's reading leaves. -/
def LitM (w : World) (X : Except Nat (List UInt8 × Nat)) (e : Ending) (w' : World) : Prop :=
  (∃ k, X = .error k ∧ ThrownU w k e w') ∨
  (∃ t u v, X = .ok (t, u) ∧ e = .returned (.tuple #[v, .int .i64 ((u : Nat) : Int)]) ∧ Own w' w.heap.size v t ∧ Below w.heap.size w w')
theorem ThrownU.after {w w1 w2 : World} {k : Nat} {e : Ending} (h : Below w.heap.size w w1) (h' : ThrownU w1 k e w2) : ThrownU w k e w2 := by
  obtain ⟨q, h1, h2, h3, h4, h5⟩ := h'
  exact ⟨q, h1, h2, h.trans (h3.mono h.size), Nat.le_trans h.size h4, h5⟩
/-- Where the loop stands: p, the range's place; u, what is read; nx, where reading goes on; n, rounds left. -/
structure LS (L : List UInt8) (p u nx n : Nat) (t : List UInt8) : Prop where
  pu : p ≤ u
  p1 : 1 ≤ p
  nu : nx ≤ u
  ne : p < u → nx = u
  ul : u ≤ L.length
  fuel : L.length < u + n
  tl : t.length ≤ u
  lo : low (u - p) (L.drop p)
  eq : litF fullP n (L.drop u) t u = unqF fullP L
set_option maxHeartbeats 8000000 in
theorem literal_any (s : ByteArray) (L : List UInt8) (w : World) (h : s.data.toList = L) (hs : L.length ≤ 300000) (hT : TabsU w) :
    Calls Tryd.prog 16 #[.string s] w (LitM w (unqF fullP L)) := by
  obtain ⟨X, hX⟩ : ∃ X, unqF fullP L = X := ⟨_, rfl⟩
  rw [hX]
  have HX := Lib.hid hX
  obtain ⟨m, hm⟩ : ∃ m, L.length = m := ⟨_, rfl⟩
  have hsz : s.size = m := by rw [Lib.size_eq, h]; exact hm
  have HS := Lib.hid (And.intro h (And.intro hm hs))
  have HT := Lib.hid hT
  clear h hs hT hX hm
  go_enter Tryd.func16, Tryd.ntmps16
  go_wp2_with fail
  go_loopw [4, 5] (fun x y wr => ∃ (A : Option Addr) (nn k nx p : Nat) (t : List UInt8), x = .slice A nn k ∧ y = .int .i64 (nx : Int) ∧ Own wr w.heap.size (.slice A nn k) t ∧ wr.heap[w.heap.size]? = some (Obj.stringIter s p) ∧ Below w.heap.size w wr ∧
      ((p = 0 ∧ nx = 0 ∧ t = []) ∨ ∃ u n, LS L p u nx n t)) (fun _ _ wr => s.size - wr.iterPos w.heap.size)
  case atStart => exact ⟨none, 0, 0, 0, 0, [], rfl, rfl, Own.nil _ _, World.iter_heap w s 0, (Below.refl _ w).alloc (Nat.le_refl _) _, .inl ⟨rfl, rfl, rfl⟩⟩
  case round =>
    obtain ⟨A, nn, k, nx, p, t, rfl, rfl, ho, hit, hbw, hst⟩ := hrel
    have hNs : w.heap.size < wr.heap.size := (Array.getElem?_eq_some_iff.1 hit).1
    have HW := Lib.hid (And.intro ho (And.intro hbw hNs))
    have HST := Lib.hid hst
    clear ho hbw hNs hst
    by_cases hpm : p < m
    rotate_left
    · -- the text is at its end
      have hnx : ∀ ty, (Instr.next (.pointer (some ⟨w.heap.size, 0, none⟩)) true ty).run Tryd.prog wr = _ := fun ty => Lib.run_next_end_at wr w.heap.size s p ty hit (by omega)
      have HE : RowKit.Hid (X = .error 10) := Lib.hid (by
        rcases HST.out with ⟨h1, _, _⟩ | ⟨u, n, hl⟩
        · have hm0 : L = [] := List.eq_nil_of_length_eq_zero (by have := HS.out.2.1; omega)
          rw [← HX.out, hm0]
          rfl
        · have hul := hl.ul
          have hpu := hl.pu
          have hf := hl.fuel
          have h2 := HS.out.2.1
          have h3 := hl.eq
          obtain ⟨n1, rfl⟩ : ∃ n1, n = n1 + 1 := ⟨n - 1, by omega⟩
          rw [← HX.out, ← h3, List.drop_eq_nil_of_le (by omega), litF_succ, if_pos rfl])
      have T10 := Lib.hid (throw_u 10 ⟨#[]⟩ wr)
      clear hit hpm
      go_wp2_with fail
      refine T10.out.mono ?_
      rintro e w2 hth
      obtain ⟨q, rfl, hq⟩ := ThrownU.after HW.out.2.1 hth
      exact ⟨rfl, .inl ⟨10, HE.out, q, rfl, hq⟩⟩
    have hnx : ∀ ty, (Instr.next (.pointer (some ⟨w.heap.size, 0, none⟩)) true ty).run Tryd.prog wr = _ := fun ty => Lib.run_next_any_at wr w.heap.size s p ty hit (by omega)
    rw [← decodeL_drop, HS.out.1] at hnx
    have hne : L.drop p ≠ [] := fun e => by have := congrArg List.length e; rw [List.length_drop, HS.out.2.1] at this; simp at this; omega
    obtain ⟨c, wd, hd⟩ : ∃ c wd, decodeL (L.drop p) = (c, wd) := ⟨_, _, rfl⟩
    rw [hd] at hnx
    dsimp only at hnx
    have HD := Lib.hid (And.intro hd hne)
    have HIX := Lib.hid (Lib.iterAt_heap wr w.heap.size s p (p + wd) hit)
    have HPO : RowKit.Hid (wr.iterPos w.heap.size = p ∧ 1 ≤ wd) := Lib.hid ⟨by simp only [World.iterPos, hit], by have := decodeL_width (L.drop p); rw [hd] at this; exact this⟩
    have HO2 := Lib.hid (HW.out.1.iterAt hit (p + wd))
    have HB2 := Lib.hid (Lib.below_iterAt HW.out.2.1 (k := w.heap.size) (Nat.le_refl _) s (p + wd))
    have HZ2 : RowKit.Hid (w.heap.size < (wr.iterAt w.heap.size s (p + wd)).heap.size) := Lib.hid (by rw [Lib.iterAt_size]; exact HW.out.2.2)
    have hpm2 : p ≤ m := Nat.le_of_lt hpm
    clear hd hne hit HW
    rcases HST.out with ⟨hp0, hnx0, ht0⟩ | ⟨u, n, hl⟩
    · -- the first sign
      subst hp0
      subst hnx0
      subst ht0
      rw [Nat.zero_add] at HIX HO2 HB2 HZ2
      clear HST
      have hL : L ≠ [] := by have := HD.out.2; rwa [List.drop_zero] at this
      obtain ⟨b, L1, hbL⟩ : ∃ b L1, L = b :: L1 := by
        cases L with
        | nil => exact absurd rfl hL
        | cons b L1 => exact ⟨b, L1, rfl⟩
      have hc34 : c = 34 ↔ b.toNat = 34 := by
        have h1 := dec_low b L1 34 (by decide)
        rw [← hbL] at h1
        have h2 := HD.out.1
        rw [List.drop_zero] at h2
        rw [h2] at h1
        exact h1
      by_cases hc : c = 34
      · have hb : b = 34 := UInt8.toNat_inj.1 (by have := hc34.1 hc; show b.toNat = 34; omega)
        have hw1 : wd = 1 := by
          have h2 := HD.out.1
          rw [List.drop_zero, hbL, decodeL_ascii b L1 (by rw [hb]; decide)] at h2
          injection h2 with _ h2
          exact h2.symm
        have HL : RowKit.Hid (LS L 1 1 0 m []) := Lib.hid ⟨Nat.le_refl _, Nat.le_refl _, by omega, fun h => absurd h (by omega), by have := HS.out.2.1; omega, by have := HS.out.2.1; omega, by simp, fun j hj => by omega, by
          unfold unqF
          rw [if_neg hL, if_neg (by rw [hbL, hb]; simp), HS.out.2.1]⟩
        subst hc
        subst hw1
        have M2 := Lib.hid (fun w => must_ok 2 ⟨#[]⟩ w)
        clear hc34 hL hbL hb
        go_wp2_with fail
        refine (M2.out _).mono ?_
        rintro e wz ⟨rfl, rfl⟩
        go_wp2_with fail
        go_roundw
        case rel => exact ⟨A, nn, k, 0, 1, [], rfl, rfl, HO2.out, HIX.out, HB2.out, .inr ⟨1, m, HL.out⟩⟩
        case measure =>
          rw [HPO.out.1]
          simp only [World.iterPos, HIX.out]
          omega
      · have hz : ((c : Int) == 34) = false := by rw [beq_eq_false_iff_ne]; omega
        have HE : RowKit.Hid (X = .error 2) := Lib.hid (by
          rw [← HX.out]
          unfold unqF
          rw [if_neg hL, if_pos]
          rw [hbL]
          intro e
          have e : b = 34 := by simpa using e
          exact hc (hc34.2 (by rw [e]; rfl)))
        have N2 := Lib.hid (fun w => must_no 2 ⟨#[]⟩ w)
        clear hc34 hL hbL hc
        go_wp2_with fail
        refine (N2.out _).mono ?_
        rintro e w2 hth
        obtain ⟨q, rfl, hq⟩ := ThrownU.after HB2.out hth
        exact ⟨rfl, .inl ⟨2, HE.out, q, rfl, hq⟩⟩
    · clear HST
      have HL := Lib.hid hl
      by_cases hpu : p < u
      · -- within an escape
        have hnu := hl.ne hpu
        subst hnu
        have hw1 : wd = 1 := by
          obtain ⟨b, hb1, hb2⟩ := hl.lo 0 (by omega)
          have hdr := HD.out.1
          cases hdl : L.drop p with
          | nil => exact absurd hdl HD.out.2
          | cons b' r =>
            rw [hdl] at hb1 hdr
            have hb1 : b' = b := by simpa using hb1
            rw [hb1, decodeL_ascii b r hb2] at hdr
            injection hdr with _ hdr
            exact hdr.symm
        have HL2 : RowKit.Hid (LS L (p + 1) nx nx n t) := Lib.hid ⟨hpu, by omega, hl.nu, fun _ => rfl, hl.ul, hl.fuel, hl.tl, by
          have h1 := hl.lo
          rw [show nx - p = 1 + (nx - (p + 1)) by omega] at h1
          have h2 := low_drop h1
          rwa [List.drop_drop] at h2, hl.eq⟩
        subst hw1
        have d1 : decide (p < nx) = true := decide_eq_true hpu
        clear hl
        go_wp2_with fail
        go_roundw
        case rel => exact ⟨A, nn, k, nx, p + 1, t, rfl, rfl, HO2.out, HIX.out, HB2.out, .inr ⟨nx, n, HL2.out⟩⟩
        case measure =>
          rw [HPO.out.1]
          simp only [World.iterPos, HIX.out]
          omega
      · have hup : u = p := by have := hl.pu; omega
        subst hup
        have d1 : decide (u < nx) = false := decide_eq_false (by have := hl.nu; omega)
        have hz0 : ((u : Int) == 0) = false := by rw [beq_eq_false_iff_ne]; have := hl.p1; omega
        obtain ⟨n1, hn1⟩ : ∃ n1, n = n1 + 1 := ⟨n - 1, by have := hl.fuel; have := HS.out.2.1; omega⟩
        subst hn1
        clear hl
        by_cases hc34 : c = 34
        · -- the last quote
          subst hc34
          have HE : RowKit.Hid (X = .ok (t, u + 1)) := Lib.hid (by
            rw [← HX.out, ← HL.out.eq, litF_succ, if_neg HD.out.2, HD.out.1, if_pos rfl])
          have e1 : (u : Int) + 1 = ((u + 1 : Nat) : Int) := by omega
          obtain ⟨u1, hu1⟩ : ∃ u1, u + 1 = u1 := ⟨_, rfl⟩
          rw [hu1] at e1 HE
          have hu2 : u1 ≤ 300001 := by have := HS.out.2; omega
          clear hu1
          go_wp2_with fail
          go_ret2
          exact .inr ⟨t, u1, _, HE.out, rfl, HO2.out, HB2.out⟩
        · have hz34 : ((c : Int) == 34) = false := by rw [beq_eq_false_iff_ne]; omega
          by_cases hc92 : c = 92
          · -- an escape
            subst hc92
            obtain ⟨l1, hl1⟩ : ∃ l1, L.drop u = 92 :: l1 := by
              cases hdl : L.drop u with
              | nil => exact absurd hdl HD.out.2
              | cons b' r =>
                have h1 := dec_low b' r 92 (by decide)
                rw [← hdl, HD.out.1] at h1
                have h2 := h1.1 rfl
                have hb : b' = 92 := UInt8.toNat_inj.1 (by show b'.toNat = 92; omega)
                exact ⟨r, by rw [hb]⟩
            have hw1 : wd = 1 := by
              have h2 := HD.out.1
              rw [hl1, decodeL_ascii 92 l1 (by decide)] at h2
              injection h2 with _ h2
              exact h2.symm
            subst hw1
            have HES := Lib.hid (fun w => escape_any (s.extract u m) 92 l1 w (by rw [← hsz, ext_from, HS.out.1, hl1]))
            have hXe : X = match escF l1 with
                | .error k => .error k
                | .ok (c, q) => litF fullP n1 ((L.drop u).drop q) (t ++ encB c) (u + q) := by
              rw [← HX.out, ← HL.out.eq, litF_succ, if_neg HD.out.2, HD.out.1, if_neg (by decide), if_pos rfl, hl1]
              rfl
            cases hes : escF l1 with
            | error k2 =>
              rw [hes] at hXe HES
              have HE : RowKit.Hid (X = .error k2) := Lib.hid hXe
              clear hXe hes hl1
              go_wp2_with fail
              refine (HES.out _).mono ?_
              rintro e w2 (⟨k3, hk3, hth⟩ | ⟨x, hx, _⟩)
              · injection hk3 with hk3
                subst hk3
                obtain ⟨q, rfl, hq⟩ := ThrownU.after HB2.out hth
                exact ⟨rfl, .inl ⟨k2, HE.out, q, rfl, hq⟩⟩
              · cases hx
            | ok cq =>
              obtain ⟨c2, q⟩ := cq
              rw [hes] at hXe HES
              obtain ⟨hok, hwq, hq2, hlow⟩ := escF_ok hes
              have hql : u + q ≤ m := by
                have h1 := congrArg List.length hl1
                rw [List.length_drop, HS.out.2.1, List.length_cons] at h1
                obtain ⟨b, hb1, _⟩ := hlow (q - 2) (by omega)
                have h2 := (List.getElem?_eq_some_iff.1 hb1).1
                omega
              have HL2 : RowKit.Hid (LS L (u + 1) (u + q) (u + q) n1 (t ++ encB c2)) := Lib.hid ⟨by omega, by omega, Nat.le_refl _, fun _ => rfl, by rw [HS.out.2.1]; exact hql, by have := HL.out.fuel; omega, by rw [List.length_append, encB_length]; have := HL.out.tl; omega, by
                have h1 : L.drop (u + 1) = l1 := by rw [← List.drop_drop, hl1]; rfl
                rw [h1, show u + q - (u + 1) = q - 1 by omega]
                exact hlow, by rw [HX.out, hXe]; dsimp only; rw [List.drop_drop]⟩
              have HAP := Lib.hid (fun wx ho hB => apprune A nn k w.heap.size c2 t wx ho hB (by have h1 := HL.out.tl; have h2 := HL.out.ul; have h3 := HS.out.2; omega) hok)
              have HAP2 := Lib.hid (HAP.out _ HO2.out (Nat.le_of_lt HZ2.out))
              have e1 : (u : Int) + (q : Int) = ((u + q : Nat) : Int) := by omega
              obtain ⟨z, hz⟩ : ∃ z, u + q = z := ⟨_, rfl⟩
              rw [hz] at e1 HL2 hql
              have hz2 : z ≤ 300000 := by have := HS.out.2; omega
              clear hXe hes hl1 hok hwq hq2 hlow HAP hz
              go_wp2_with fail
              refine (HES.out _).mono ?_
              rintro e w2 (⟨k3, hk3, _⟩ | ⟨x, hx, rfl, rfl⟩)
              · cases hk3
              injection hx with hx
              subst hx
              go_wp2_with fail
              refine HAP2.out.mono ?_
              rintro e w3 ⟨v3, rfl, h1, h2⟩
              obtain ⟨A3, k3, hv3⟩ := h1.slice
              obtain ⟨n3, hn3⟩ : ∃ n3, (t ++ encB c2).length = n3 := ⟨_, rfl⟩
              rw [hn3] at hv3
              subst hv3
              have HR := Lib.hid (And.intro h1 (AS.of_own HO2.out (Nat.le_of_lt HZ2.out) h2))
              clear h1 h2 hn3 HAP2
              go_wp2_with fail
              go_roundw
              case rel => exact ⟨A3, n3, k3, z, u + 1, _, rfl, rfl, HR.out.1, HR.out.2.keeps _ _ _ HIX.out, HB2.out.trans HR.out.2.below, .inr ⟨z, n1, HL2.out⟩⟩
              case measure =>
                have h2 := HR.out.2.keeps _ _ _ HIX.out
                rw [HPO.out.1]
                simp only [World.iterPos, h2]
                omega
          · -- a sign as it is
            have hz92 : ((c : Int) == 92) = false := by rw [beq_eq_false_iff_ne]; omega
            have HSD := Lib.hid (stand_any c (s.extract u m) (L.drop u) (wr.iterAt w.heap.size s (u + wd)) (by rw [← hsz, ext_from, HS.out.1]) HD.out.2 (by rw [HD.out.1]) (HT.out.below HB2.out HT.out.size))
            have hXe := litF_at n1 (L.drop u) t u HD.out.2 (by rw [HD.out.1]; exact hc34) (by rw [HD.out.1]; exact hc92)
            rw [HL.out.eq, HX.out, HD.out.1] at hXe
            dsimp only at hXe
            cases hsd : standF (L.drop u) with
            | error k2 =>
              rw [hsd] at hXe HSD
              have HE : RowKit.Hid (X = .error k2) := Lib.hid hXe
              clear hXe hsd
              go_wp2_with fail
              refine HSD.out.mono ?_
              rintro e w2 (⟨k3, hk3, hth⟩ | ⟨x, hx, _⟩)
              · injection hk3 with hk3
                subst hk3
                obtain ⟨q, rfl, hq⟩ := ThrownU.after HB2.out hth
                exact ⟨rfl, .inl ⟨k2, HE.out, q, rfl, hq⟩⟩
              · cases hx
            | ok x0 =>
              rw [hsd] at hXe HSD
              obtain ⟨c3, hok, hd3, hw3⟩ := stand_ok HD.out.2 hsd
              rw [HD.out.1] at hd3
              injection hd3 with hc3 hw4
              subst hc3
              rw [List.length_drop, HS.out.2.1] at hw3
              have HL2 : RowKit.Hid (LS L (u + wd) (u + wd) nx n1 (t ++ encB c)) := Lib.hid ⟨Nat.le_refl _, by have := HL.out.p1; omega, by have := HL.out.nu; omega, fun h => absurd h (by omega), by rw [HS.out.2.1]; omega, by have := HL.out.fuel; have := HPO.out.2; omega, by rw [List.length_append, encB_length]; have := HL.out.tl; omega, fun j hj => by omega, by rw [HX.out, hXe]; dsimp only; rw [List.drop_drop]⟩
              have HAP := Lib.hid (fun wx ho hB => apprune A nn k w.heap.size c t wx ho hB (by have h1 := HL.out.tl; have h2 := HL.out.ul; have h3 := HS.out.2; omega) hok)
              have HAP2 := Lib.hid (HAP.out _ HO2.out (Nat.le_of_lt HZ2.out))
              clear hXe hsd hok hw3 hw4 HAP
              go_wp2_with fail
              refine HSD.out.mono ?_
              rintro e w2 (⟨k3, hk3, _⟩ | ⟨x, hx, rfl, rfl⟩)
              · cases hk3
              go_wp2_with fail
              refine HAP2.out.mono ?_
              rintro e w3 ⟨v3, rfl, h1, h2⟩
              obtain ⟨A3, k3, hv3⟩ := h1.slice
              obtain ⟨n3, hn3⟩ : ∃ n3, (t ++ encB c).length = n3 := ⟨_, rfl⟩
              rw [hn3] at hv3
              subst hv3
              have HR := Lib.hid (And.intro h1 (AS.of_own HO2.out (Nat.le_of_lt HZ2.out) h2))
              clear h1 h2 hn3 HAP2
              go_wp2_with fail
              go_roundw
              case rel => exact ⟨A3, n3, k3, nx, u + wd, _, rfl, rfl, HR.out.1, HR.out.2.keeps _ _ _ HIX.out, HB2.out.trans HR.out.2.below, .inr ⟨u + wd, n1, HL2.out⟩⟩
              case measure =>
                have h2 := HR.out.2.keeps _ _ _ HIX.out
                have h3 := HPO.out.2
                rw [HPO.out.1]
                simp only [World.iterPos, h2]
                omega
end Go.Proofs.YtanmkddmebhdpaaDoor
