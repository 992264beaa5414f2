/- Contract of the reference's Unquote. -/
import Derived.Test.YtanmkddmebhdpaaDoorUrp
import Derived.Test.YtanmkddmebhdpaaDoorUrv
import Derived.Test.YtanmkddmebhdpaaDoorUna
import Derived.Lib.AppendStr
namespace Go.Proofs.YtanmkddmebhdpaaDoor
set_option maxRecDepth 20000
open Go.RowKit Go.Lib

/-- append(out, s...) of a text. -/
theorem catS {ops : Array Oper} {rest : List Oper} {o : Oper} {a : Act} {Q : Exit → Act → World → Prop} (w0 : World) (hgd : o.guard = none) (s x : Operand)
    (ho : o.op = .call { callee := .builtin .append, args := #[s, x], argTypes := #[35, 9] })
    (B : Nat) (v : Value) (l : List UInt8) (t : ByteArray) (hs : a.eval s = v) (hx : a.eval x = .string t)
    (hown : Own w0 B v l) (hB : B ≤ w0.heap.size) (hl : l.length + t.size ≤ 1000000)
    (h : ∀ v' w', Own w' B v' (l ++ t.data.toList) → w0.grownBy w' v.ownBlock → wpList Tryd.prog ops Q rest (a.put o.dst v') w') :
    wpList Tryd.prog ops Q (o :: rest) a w0 := by
  obtain ⟨i0, hi, hz0, hz1, hz2⟩ := info_parts info5
  refine Lib.wpList_append_own_string w0 hgd s x 35 9 ho B 5 i0 Tryd.underlying35 Tryd.underlying9 hi hz0 hz1 hz2 v l.length (us l) hs hown t hx (by unfold maxLen; omega) (by omega) hB ?_
  intro v' w' h1 h2 _
  refine h v' w' ?_ h2
  unfold Own
  rw [List.length_append, us_append, ← Lib.size_eq]
  exact h1
/-- What Unquote answers. -/
def ruqR : Except Nat (List UInt8 × Nat) → Value
  | .ok (t, u) => .tuple #[.string ⟨t.toArray⟩, .int .i64 (u : Int), .int .i64 0]
  | .error k => .tuple #[.string ⟨#[]⟩, .int .i64 0, .int .i64 (k : Int)]
/-- What holds at each round. -/
def UInv (w : World) (L : List UInt8) (X : Except Nat (List UInt8 × Nat)) (b a : Value) (wr : World) : Prop :=
  ∃ (A : Option Addr) (n k p m : Nat) (t : List UInt8), b = .slice A n k ∧ a = .int .i64 (p : Int) ∧ Own wr w.heap.size (.slice A n k) t ∧ Below w.heap.size w wr ∧ p ≤ L.length ∧ t.length ≤ 4 * p ∧ L.length < m + p ∧ litF fullP m (L.drop p) t p = X
theorem UInv.step {w w3 : World} {L : List UInt8} {X : Except Nat (List UInt8 × Nat)} {v : Value} {t : List UInt8} {p q m c : Nat} {z : Int} (hz : z = (q : Int)) (hpq : p < q) (hq : q ≤ L.length) (ht : t.length ≤ 4 * p) (hm : L.length < m + 1 + p)
    (hx : litF fullP m (L.drop q) (t ++ encB c) q = X) (ho : Own w3 w.heap.size v (t ++ encB c)) (hb : Below w.heap.size w w3) : UInv w L X v (.int .i64 z) w3 := by
  obtain ⟨A, k, rfl⟩ := ho.slice
  refine ⟨A, _, k, q, m, t ++ encB c, rfl, by rw [hz], ho, hb, hq, ?_, by omega, hx⟩
  rw [List.length_append, encB_length]
  have := (widC_pos c).2
  omega
def namesS : ByteArray := ⟨#[34, 92, 47, 98, 102, 110, 114, 116]⟩
theorem namesS_list : namesS.data.toList = namesL := rfl
theorem drop_one {L : List UInt8} {p : Nat} {b : UInt8} {r : List UInt8} (h : L.drop p = b :: r) : L[p]? = some b ∧ L.drop (p + 1) = r ∧ p < L.length := by
  have h1 : p < L.length := by
    have := congrArg List.length h
    rw [List.length_drop, List.length_cons] at this
    omega
  rw [List.drop_eq_getElem_cons h1] at h
  injection h with h2 h3
  exact ⟨by rw [List.getElem?_eq_getElem h1, h2], h3, h1⟩
set_option maxHeartbeats 32000000 in
theorem refunq_any (s : ByteArray) (L : List UInt8) (w : World) (h : s.data.toList = L) (hs : s.size ≤ 300) :
    Calls Tryd.prog 8 #[.string s] w fun e w' => e = .returned (ruqR (unqF fullP L)) ∧ Below w.heap.size w w' := by
  obtain ⟨ns, hns⟩ : ∃ ns, s.size = ns := ⟨_, rfl⟩
  have hnl : L.length = ns := by rw [← h, ← Lib.size_eq, hns]
  have HL := Lib.hid h
  have HNS := Lib.hid hns
  rw [hns] at hs
  unfold unqF
  rcases L with _ | ⟨b0, r0⟩
  · rw [if_pos rfl]
    have hz : ((ns : Int) == 0) = true := by rw [← hnl]; rfl
    have hz2 : ns = 0 := hnl.symm
    clear h hnl HL
    go_enter Tryd.func8, Tryd.ntmps8
    go_wp2_with fail
    refine bodyPost_ret (results_tmp3 rfl _ _ _) rfl ?_
    exact ⟨rfl, Below.refl _ _⟩
  · rw [if_neg (by simp)]
    have hz : ((ns : Int) == 0) = false := by rw [beq_eq_false_iff_ne, ← hnl, List.length_cons]; omega
    have hz2 : ¬ ns = 0 := by rw [← hnl, List.length_cons]; omega
    have k0 := fun w => idx_at s (b0 :: r0) h 0 b0 rfl w
    simp only [Int.natCast_zero] at k0
    obtain ⟨y0, hy0⟩ : ∃ y0, b0.toNat = y0 := ⟨_, rfl⟩
    rw [hy0] at k0
    by_cases hb0 : y0 = 34
    rotate_left
    · have hne : b0 ≠ 34 := by rintro rfl; exact hb0 hy0.symm
      rw [if_pos (by simpa using hne)]
      have d0 : ((y0 : Int) == 34) = false := by rw [beq_eq_false_iff_ne]; omega
      have d0b : ((y0 : Int) != 34) = true := by rw [bne_iff_ne]; omega
      clear h hnl HL hne hy0
      go_enter Tryd.func8, Tryd.ntmps8
      go_wp2_with fail
      refine bodyPost_ret (results_tmp3 rfl _ _ _) rfl ?_
      exact ⟨rfl, Below.refl _ _⟩
    · have heq : b0 = 34 := UInt8.toNat_inj.1 (hy0.trans hb0)
      rw [if_neg (by simp [heq])]
      subst hb0
      obtain ⟨X, hX⟩ : ∃ X, litF fullP (b0 :: r0).length ((b0 :: r0).drop 1) [] 1 = X := ⟨_, rfl⟩
      rw [hX]
      have HX := Lib.hid hX
      have HN1 : RowKit.Hid (1 ≤ (b0 :: r0).length) := Lib.hid (by rw [List.length_cons]; omega)
      obtain ⟨L, hL⟩ : ∃ L, b0 :: r0 = L := ⟨_, rfl⟩
      rw [hL] at HX HN1 HL hnl
      have HNL := Lib.hid hnl
      clear h hX heq hy0 hL hnl
      go_enter Tryd.func8, Tryd.ntmps8
      go_wp2_with fail
      have hown : Own (w.alloc (.cells #[] 5)) w.heap.size (.slice (some ⟨w.heap.size, 0, none⟩) 0 0) [] := Own.lit w #[] [] 0 rfl rfl (by decide)
      have HO := Lib.hid hown
      have HB := Lib.hid (below_make (World.grownBy_alloc w (.cells #[] 5) none))
      clear hown k0 hz hz2
      generalize w.alloc (.cells #[] 5) = w0 at HO HB ⊢
      go_loopw [5, 6] (fun b a wr => UInv w L X b a wr) (fun _ a _ => ns - (intOf a).toNat)
      case atStart => exact ⟨_, 0, 0, 1, L.length, [], rfl, rfl, HO.out, HB.out, HN1.out, by decide, by omega, HX.out⟩
      case round =>
        clear HO HB HX HN1
        obtain ⟨A, n, k, p, m, t, rfl, rfl, ho, hbw, hpl, htl, hmp, hx⟩ := hrel
        have HW := Lib.hid (And.intro hbw (And.intro ho hbw.size))
        have HK := Lib.hid hx
        clear hbw ho hx
        have hnl := HNL.out
        obtain ⟨m, rfl⟩ : ∃ m', m = m' + 1 := ⟨m - 1, by omega⟩
        have hpb : p ≤ 300 := by omega
        have htb : t.length ≤ 1200 := by omega
        have HT := Lib.hid (And.intro htl (And.intro htb hmp))
        clear htl htb hmp
        match hd : L.drop p, HK with
        | [], HK =>
          rw [lit_nil] at HK
          have hge : ns ≤ p := by
            have := congrArg List.length hd
            rw [List.length_drop, List.length_nil] at this
            omega
          have d1 : decide ((p : Int) < (ns : Int)) = false := decide_eq_false (by omega)
          have d1n : decide (p < ns) = false := decide_eq_false (by omega)
          clear hd hge hpl hnl
          go_wp2_with fail
          refine bodyPost_ret (results_tmp3 rfl _ _ _) rfl ?_
          exact ⟨by rw [← HK.out]; rfl, HW.out.1⟩
        | b :: r, HK =>
          obtain ⟨hb1, hdr, hlt⟩ := drop_one hd
          have kb := fun w => idx_at s L HL.out p b hb1 w
          rw [hnl] at hlt
          have d1 : decide ((p : Int) < (ns : Int)) = true := decide_eq_true (by omega)
          have d1n : decide (p < ns) = true := decide_eq_true hlt
          have hy8 := b.toNat_lt
          obtain ⟨y, hy⟩ : ∃ y, b.toNat = y := ⟨_, rfl⟩
          rw [hy] at kb hy8
          have HY := Lib.hid hy
          have HD := Lib.hid (And.intro hd (And.intro hdr hlt))
          clear hb1 hdr hlt hd
          by_cases c34 : y = 34
          · have heq : b = 34 := UInt8.toNat_inj.1 (hy.trans c34)
            rw [heq, lit_quote] at HK
            subst c34
            have hst := str8 wr wr.heap.size A n k t HW.out.2.1.rd.2
            clear heq hy hpl hnl
            go_wp2_with fail
            refine bodyPost_ret (results_tmp3 rfl _ _ _) rfl ?_
            exact ⟨by rw [← HK.out]; rfl, HW.out.1⟩
          have e34 : ((y : Int) == 34) = false := by rw [beq_eq_false_iff_ne]; omega
          by_cases c32 : y < 32
          · rw [lit_low _ _ _ _ _ _ (by rw [hy]; exact c32)] at HK
            have d32 : decide ((y : Int) < 32) = true := decide_eq_true (by omega)
            clear hy hpl hnl c34 c32
            go_wp2_with fail
            refine bodyPost_ret (results_tmp3 rfl _ _ _) rfl ?_
            exact ⟨by rw [← HK.out]; rfl, HW.out.1⟩
          have d32 : decide ((y : Int) < 32) = false := decide_eq_false (by omega)
          by_cases c92 : y = 92
          rotate_left
          · have e92 : ((y : Int) == 92) = false := by rw [beq_eq_false_iff_ne]; omega
            have e92b : ((y : Int) != 92) = true := by rw [bne_iff_ne]; omega
            have hps : p ≤ s.size := by rw [HNS.out]; omega
            have hps2 : p ≤ ns := by omega
            have HS := Lib.hid (fun wx => sign_any (s.extract p s.size) (b :: r) wx (by rw [ext_from, HL.out]; exact HD.out.1))
            rw [HNS.out] at HS
            rcases lit_sign b r (by omega) (by omega) (by omega) with ⟨z, kk, hsg, hzk, hlit⟩ | ⟨c, r', hc, hbe, hsg, hlit⟩
            · rw [hlit] at HK
              rw [hsg] at HS
              unfold sigR at HS
              dsimp only at HS
              clear hlit hsg hy c34 c32 c92 hpl
              rcases hzk with ⟨rfl, rfl⟩ | ⟨rfl, rfl⟩
              all_goals
                go_wp2_with fail
                refine (HS.out _).mono ?_
                rintro e wz ⟨rfl, hwz⟩
                have HB2 : RowKit.Hid (Below w.heap.size w wz) := Lib.hid (by rw [hwz]; exact HW.out.1)
                clear hwz
                go_wp2_with fail
                refine bodyPost_ret (results_tmp3 rfl _ _ _) rfl ?_
                exact ⟨by rw [← HK.out]; rfl, HB2.out⟩
            · rw [hlit] at HK
              rw [hsg] at HS
              unfold sigR at HS
              dsimp only at HS
              obtain ⟨kw, hkw⟩ : ∃ kw, widC c = kw := ⟨_, rfl⟩
              have hk1 : 1 ≤ kw := by rw [← hkw]; exact (widC_pos c).1
              have hk4 : kw ≤ 4 := by rw [← hkw]; exact (widC_pos c).2
              rw [hkw] at HS HK
              have hd2 : L.drop p = encB c ++ r' := HD.out.1.trans hbe
              have hkl : p + kw ≤ ns := by
                have := congrArg List.length hd2
                rw [List.length_drop, List.length_append, encB_length, hkw] at this
                omega
              have hpk : p ≤ p + kw := Nat.le_add_right _ _
              have hkls : p + kw ≤ s.size := by rw [HNS.out]; exact hkl
              have HCO : RowKit.Hid ((s.extract p (p + kw)).data.toList = encB c) := Lib.hid (by rw [ext_list, HL.out, hd2, Nat.add_sub_cancel_left, List.take_left' (by rw [encB_length, hkw])])
              have HCT : RowKit.Hid (List.take kw (List.drop p s.data.toList) = encB c) := Lib.hid (by rw [HL.out, hd2, List.take_left' (by rw [encB_length, hkw])])
              have HCS : RowKit.Hid ((s.extract p (p + kw)).size ≤ 4) := Lib.hid (by rw [Lib.size_eq, HCO.out, encB_length, hkw]; exact hk4)
              have HDR : RowKit.Hid (L.drop (p + kw) = r') := Lib.hid (by rw [← List.drop_drop, hd2, List.drop_left' (by rw [encB_length, hkw])])
              have hq0 : ¬ kw = 0 := by omega
              have eq0 : ((kw : Int) == 0) = false := by rw [beq_eq_false_iff_ne]; omega
              have eqm : ((kw : Int) == -1) = false := by rw [beq_eq_false_iff_ne]; omega
              have HH := Lib.hid (And.intro hk1 hkl)
              clear hlit hsg hy c34 c32 c92 hpl hd2 hbe hkw hk1 hnl
              go_wp2_with fail
              refine (HS.out _).mono ?_
              rintro e wz ⟨rfl, hwz⟩
              subst hwz
              go_wp2_with (at_builtin; refine catS _ rfl (.tmp 58) (.tmp 64) rfl w.heap.size (.slice A n k) t (s.extract p (p + kw)) rfl rfl HW.out.2.1 HW.out.2.2 (by have h1 := HT.out.2.1; have h2 := HCS.out; omega) ?_)
              intro v' w' h1 h2
              first | rw [HCT.out] at h1 | rw [HCO.out] at h1
              obtain ⟨A2, k2, hv2⟩ := h1.slice
              obtain ⟨m2, hm2⟩ : ∃ m2, (t ++ encB c).length = m2 := ⟨_, rfl⟩
              rw [hm2] at hv2
              subst hv2
              have HR := Lib.hid (And.intro h1 (HW.out.1.trans (Own.grown HW.out.2.1 h2 (Below.refl w.heap.size _) HW.out.2.2)))
              clear h1 h2 HS hm2
              go_wp2_with fail
              go_roundw
              case rel => exact UInv.step (by simp) (by have := HH.out.1; omega : p < p + kw) (by rw [HNL.out]; exact HH.out.2) HT.out.1 HT.out.2.2 (by rw [HDR.out]; exact HK.out) HR.out.1 HR.out.2
              case measure => have h1 := HH.out.1; have h2 := HH.out.2; simp [intOf]; omega
          · have heq : b = 92 := UInt8.toNat_inj.1 (hy.trans c92)
            subst heq
            subst c92
            rw [lit_back] at HK
            clear hy c34 c32 e34 d32 hy8
            obtain ⟨p1, hp1⟩ : ∃ p1, p + 1 = p1 := ⟨_, rfl⟩
            have e1 : (p : Int) + 1 = (p1 : Int) := by omega
            rcases r with _ | ⟨a, r2⟩
            · rw [show escF [] = .error 10 from rfl] at HK
              dsimp only at HK
              have hge : ns ≤ p1 := by
                have := congrArg List.length HD.out.1
                rw [List.length_drop, List.length_cons, List.length_nil] at this
                omega
              have d2 : decide ((ns : Int) ≤ (p1 : Int)) = true := decide_eq_true (by omega)
              have d2n : decide (ns ≤ p1) = true := decide_eq_true hge
              clear hge hp1 hpl hnl
              go_wp2_with fail
              refine bodyPost_ret (results_tmp3 rfl _ _ _) rfl ?_
              exact ⟨by rw [← HK.out]; rfl, HW.out.1⟩
            · have hd1 : L.drop p1 = a :: r2 := by rw [← hp1, HD.out.2.1]
              obtain ⟨ha1, hdr2, hlt1⟩ := drop_one hd1
              rw [hnl] at hlt1
              have d2 : decide ((ns : Int) ≤ (p1 : Int)) = false := decide_eq_false (by omega)
              have d2n : decide (ns ≤ p1) = false := decide_eq_false (by omega)
              have ka := fun w => idx_at s L HL.out p1 a ha1 w
              obtain ⟨p2, hp2⟩ : ∃ p2, p + 2 = p2 := ⟨_, rfl⟩
              have e2 : (p : Int) + 2 = (p2 : Int) := by omega
              have HP := Lib.hid (And.intro hp1 (And.intro hp2 (And.intro hlt1 (show L.drop p2 = r2 by rw [← hdr2]; congr 1; omega))))
              have hp1b : p1 ≤ 301 := by omega
              have hp2b : p2 ≤ 302 := by omega
              clear hd1 hdr2 ha1 hlt1 hp1 hp2 hpl hnl
              obtain ⟨ya, hya⟩ : ∃ ya, a.toNat = ya := ⟨_, rfl⟩
              rw [hya] at ka
              have HYA := Lib.hid hya
              clear hya
              go_wp2_with fail
              have hbo : Own (wr.alloc (.cells #[.int .u8 34, .int .u8 92, .int .u8 47, .int .u8 8, .int .u8 12, .int .u8 10, .int .u8 13, .int .u8 9] 5)) wr.heap.size (.slice (some ⟨wr.heap.size, 0, none⟩) 8 8) bytesL := Own.lit wr _ bytesL 8 rfl rfl (by decide)
              have hbk := below_make (World.grownBy_alloc wr (.cells #[.int .u8 34, .int .u8 92, .int .u8 47, .int .u8 8, .int .u8 12, .int .u8 10, .int .u8 13, .int .u8 9] 5) none)
              have HBO := Lib.hid hbo
              have HWB := Lib.hid (And.intro (HW.out.1.trans (hbk.mono HW.out.2.2)) (And.intro (HW.out.2.1.kept hbk) (Nat.le_trans HW.out.2.2 hbk.size)))
              obtain ⟨g, hg⟩ : ∃ g, wr.heap.size = g := ⟨_, rfl⟩
              rw [hg] at HBO ⊢
              clear hbo hbk hg HW
              generalize wr.alloc (.cells #[.int .u8 34, .int .u8 92, .int .u8 47, .int .u8 8, .int .u8 12, .int .u8 10, .int .u8 13, .int .u8 9] 5) = wb at HBO HWB ⊢
              go_loopw [12, 13] (fun sh i wr2 => ∃ j : Nat, i = .int .i64 (j : Int) ∧ sh = .int .i64 (shortP a j) ∧ j ≤ 8 ∧ Below wb.heap.size wb wr2) (fun _ i _ => 8 - (intOf i).toNat)
              case atStart => exact ⟨0, rfl, rfl, by decide, Below.refl _ _⟩
              case round =>
                obtain ⟨j, rfl, rfl, hj, hwj⟩ := hrel
                by_cases hj8 : j = 8
                rotate_left
                · have dj : decide ((j : Int) < 8) = true := decide_eq_true (by omega)
                  obtain ⟨v, hv⟩ : ∃ v, namesL[j]? = some v := ⟨_, List.getElem?_eq_getElem (show j < namesL.length by show j < 8; omega)⟩
                  have kn := fun w => idx_at namesS namesL namesS_list j v hv w
                  unfold namesS at kn
                  have HSH : RowKit.Hid (shortP a (j + 1) = if v = a then (j : Int) else shortP a j) := Lib.hid (by
                    rw [shortP_succ, hv]
                    by_cases q : v = a
                    · rw [if_pos (by rw [q]), if_pos q]
                    · rw [if_neg (fun h => q (Option.some.inj h)), if_neg q])
                  have hwj2 := Lib.hid hwj
                  clear hwj hv
                  have hjb : j ≤ 7 := by omega
                  obtain ⟨yv, hyv⟩ : ∃ yv, v.toNat = yv := ⟨_, rfl⟩
                  rw [hyv] at kn
                  by_cases q : v = a
                  · rw [if_pos q] at HSH
                    have hyy : yv = ya := by rw [← hyv, q, HYA.out]
                    subst hyy
                    have hjj := Lib.hid (show j + 1 ≤ 8 by omega)
                    clear hj hj8 hyv q
                    obtain ⟨zs, hzs⟩ : ∃ zs, shortP a j = zs := ⟨_, rfl⟩
                    rw [hzs]
                    clear hzs
                    go_wp2_with fail
                    go_region
                    all_goals
                      go_wp2_with fail
                      go_roundw
                      case rel => exact ⟨j + 1, by simp, by rw [HSH.out], hjj.out, hwj2.out.drew⟩
                      case measure => have := hjj.out; simp [intOf]; omega
                  · rw [if_neg q] at HSH
                    have hyy : ((yv : Int) == (ya : Int)) = false := by
                      rw [beq_eq_false_iff_ne]
                      intro h
                      exact q (UInt8.toNat_inj.1 (by rw [hyv, HYA.out]; omega))
                    have hyn : ¬ yv = ya := by
                      intro h
                      exact q (UInt8.toNat_inj.1 (by rw [hyv, HYA.out]; omega))
                    have hjj := Lib.hid (show j + 1 ≤ 8 by omega)
                    clear hj hj8 hyv q
                    obtain ⟨zs, hzs⟩ : ∃ zs, shortP a j = zs := ⟨_, rfl⟩
                    rw [hzs] at HSH ⊢
                    clear hzs
                    go_wp2_with fail
                    go_region
                    all_goals
                      go_wp2_with fail
                      go_roundw
                      case rel => exact ⟨j + 1, by simp, by rw [HSH.out], hjj.out, hwj2.out.drew⟩
                      case measure => have := hjj.out; simp [intOf]; omega
                · subst hj8
                  clear hj
                  have HBO2 := Lib.hid (HBO.out.kept hwj)
                  have HWB2 := Lib.hid (And.intro (HWB.out.1.trans (hwj.mono HWB.out.2.2)) (And.intro (HWB.out.2.1.kept hwj) (Nat.le_trans HWB.out.2.2 hwj.size)))
                  clear hwj HBO HWB
                  rcases short_spec a with ⟨hs1, h47, hidx⟩ | ⟨j, v, hsj, hj8, hbv, hv128, hesc⟩
                  rotate_left
                  · rw [hsj]
                    rw [hesc] at HK
                    dsimp only [List.drop_succ_cons, List.drop_zero] at HK
                    obtain ⟨g', c', x, he, hx, hc⟩ := HBO2.out.at8 (k := j) hj8
                    have hgg : g = g' := by
                      injection he with he1 _ _
                      injection he1 with he1
                      injection he1
                    clear he
                    subst hgg
                    rw [hbv] at hx
                    injection hx with hx
                    subst hx
                    have hj8i : (j : Int) < 8 := by omega
                    have dj0 : decide ((0 : Int) ≤ (j : Int)) = true := decide_eq_true (by omega)
                    have HE := Lib.hid (encB_low v hv128)
                    have hpl2 : RowKit.Hid (p2 ≤ ns ∧ p < p2) := Lib.hid (by have := HP.out; omega)
                    clear hesc hbv hv128 hsj
                    go_wp2_with (at_builtin; refine push8 _ rfl (.tmp 92) (.tmp 97) rfl w.heap.size (.slice A n k) t [v] _ 1 rfl rfl HWB2.out.2.1 rfl rfl HWB2.out.2.2 (by have := HT.out.2.1; omega) ?_)
                    intro v' w' h1 h2 _
                    obtain ⟨A2, k2, hv2⟩ := h1.slice
                    obtain ⟨m2, hm2⟩ : ∃ m2, (t ++ [v]).length = m2 := ⟨_, rfl⟩
                    rw [hm2] at hv2
                    subst hv2
                    have HR := Lib.hid (And.intro h1 (HWB2.out.1.trans (Own.grown HWB2.out.2.1 h2 (Below.refl w.heap.size _) HWB2.out.2.2)))
                    clear h1 h2 hm2
                    go_wp2_with fail
                    go_roundw
                    case rel => exact UInv.step (q := p2) (c := v.toNat) (m := m) (by first | rfl | simp) hpl2.out.2 (by rw [HNL.out]; exact hpl2.out.1) HT.out.1 HT.out.2.2 (by rw [HP.out.2.2.2, ← HP.out.2.1] <;> exact HK.out) (by rw [HE.out]; exact HR.out.1) HR.out.2
                    case measure => have h1 := hpl2.out; simp [intOf]; omega
                  · rw [hs1]
                    clear hs1 HBO2
                    by_cases c117 : ya = 117
                    rotate_left
                    · have hne : a ≠ 117 := by rintro rfl; exact c117 HYA.out.symm
                      rw [escF_cons, if_neg hne, if_neg h47, if_neg hidx] at HK
                      dsimp only at HK
                      have e117 : ((ya : Int) == 117) = false := by rw [beq_eq_false_iff_ne]; omega
                      have e117b : ((ya : Int) != 117) = true := by rw [bne_iff_ne]; omega
                      clear hne h47 hidx
                      go_wp2_with fail
                      refine bodyPost_ret (results_tmp3 rfl _ _ _) rfl ?_
                      exact ⟨by rw [← HK.out]; rfl, HWB2.out.1⟩
                    · have heq : a = 117 := UInt8.toNat_inj.1 (HYA.out.trans c117)
                      rw [heq, escF_u] at HK
                      rw [heq] at HD
                      subst c117
                      clear heq h47 hidx HYA
                      have HF := Lib.hid (fun w => figures_any s L p2 2 w HL.out (by omega))
                      rw [HP.out.2.2.2] at HF
                      cases hnum : numF 2 4 r2 0 with
                      | error kk =>
                        rw [hnum] at HF
                        unfold figR at HF
                        dsimp only at HF
                        have hnf : numberedF r2 = .error kk := by unfold numberedF; rw [hnum]
                        rw [hnf] at HK
                        dsimp only at HK
                        rcases numF_err 2 4 r2 0 kk hnum with rfl | rfl
                        all_goals
                          clear hnum hnf
                          go_wp2_with fail
                          refine (HF.out _).mono ?_
                          rintro e wz ⟨rfl, hwz⟩
                          have HB3 : RowKit.Hid (Below w.heap.size w wz) := Lib.hid (by rw [hwz]; exact HWB2.out.1)
                          clear hwz
                          go_wp2_with fail
                          refine bodyPost_ret (results_tmp3 rfl _ _ _) rfl ?_
                          exact ⟨by rw [← HK.out]; rfl, HB3.out⟩
                      | ok x =>
                        rw [hnum] at HF
                        unfold figR at HF
                        dsimp only at HF
                        obtain ⟨hr4, hx65⟩ := numF_ok hnum
                        obtain ⟨p6, hp6⟩ : ∃ p6, p + 6 = p6 := ⟨_, rfl⟩
                        have e6 : (p : Int) + 6 = (p6 : Int) := by omega
                        have hd6 : L.drop p6 = r2.drop 4 := by
                          rw [← HP.out.2.2.2, List.drop_drop]
                          congr 1
                          have := HP.out.2.1
                          omega
                        have hp6n : p6 ≤ ns := by
                          have h1 := congrArg List.length HP.out.2.2.2
                          rw [List.length_drop, HNL.out] at h1
                          have := HP.out.2.1
                          omega
                        have HP6 := Lib.hid (And.intro hd6 (And.intro hp6n (show p < p6 by omega)))
                        clear hd6 hp6n hr4
                        by_cases cA : 56320 ≤ x ∧ x ≤ 57343
                        · have hnf : numberedF r2 = .error 9 := by unfold numberedF; rw [hnum]; dsimp only; rw [if_pos cA]
                          rw [hnf] at HK
                          dsimp only at HK
                          have dA1 : decide ((56320 : Int) ≤ (x : Int)) = true := decide_eq_true (by omega)
                          have dA2 : decide ((x : Int) < 57344) = true := decide_eq_true (by omega)
                          clear hnum hnf cA hp6
                          go_wp2_with fail
                          refine (HF.out _).mono ?_
                          rintro e wz ⟨rfl, hwz⟩
                          have HB3 : RowKit.Hid (Below w.heap.size w wz) := Lib.hid (by rw [hwz]; exact HWB2.out.1)
                          clear hwz
                          go_wp2_with fail
                          refine bodyPost_ret (results_tmp3 rfl _ _ _) rfl ?_
                          exact ⟨by rw [← HK.out]; rfl, HB3.out⟩
                        · by_cases cB : x < 55296 ∨ 57343 < x
                          · have hnf : numberedF r2 = .ok (x, 6) := numberedF_one r2 x hnum cB
                            rw [hnf] at HK
                            dsimp only [List.drop_succ_cons] at HK
                            have HPUT := Lib.hid (fun w => put_any x w (by omega))
                            have hel : (encB x).length ≤ 4 := by rw [encB_length]; exact (widC_pos x).2
                            have HEL := Lib.hid hel
                            have hd : (decide ((56320 : Int) ≤ (x : Int)) = false ∧ decide ((55296 : Int) ≤ (x : Int)) = false) ∨ (decide ((56320 : Int) ≤ (x : Int)) = true ∧ decide ((x : Int) < 57344) = false ∧ decide ((55296 : Int) ≤ (x : Int)) = true ∧ decide ((x : Int) < 56320) = false) := by
                              rcases cB with h | h
                              · exact .inl ⟨decide_eq_false (by omega), decide_eq_false (by omega)⟩
                              · exact .inr ⟨decide_eq_true (by omega), decide_eq_false (by omega), decide_eq_true (by omega), decide_eq_false (by omega)⟩
                            have HPP := Lib.hid hp6
                            clear hnum hnf cA cB hp6 hel
                            rcases hd with ⟨dd1, dd2⟩ | ⟨dd1, dd2, dd3, dd4⟩
                            all_goals
                              go_wp2_with fail
                              refine (HF.out _).mono ?_
                              rintro e wz ⟨rfl, hwz⟩
                              have HW3 : RowKit.Hid (Below w.heap.size w wz ∧ Own wz w.heap.size (.slice A n k) t ∧ w.heap.size ≤ wz.heap.size) := Lib.hid (by rw [hwz]; exact HWB2.out)
                              clear hwz
                              go_wp2_with fail
                              refine (HPUT.out _).mono ?_
                              rintro e w4 ⟨v4, rfl, h41, h42⟩
                              obtain ⟨A4, k4, hv4⟩ := h41.slice
                              obtain ⟨m4, hm4⟩ : ∃ m4, (encB x).length = m4 := ⟨_, rfl⟩
                              rw [hm4] at hv4
                              subst hv4
                              have HM4 := Lib.hid hm4
                              have HO4 := Lib.hid (And.intro h41 (And.intro (below_make h42) (And.intro (HW3.out.2.1.kept (below_make h42)) h42.size)))
                              clear h41 h42 hm4
                              go_wp2_with (at_builtin; refine cat8 w4 rfl (.tmp 176) (.tmp 178) rfl w.heap.size w4.heap.size (.slice A n k) t (encB x) A4 m4 k4 rfl rfl HO4.out.2.2.1 HO4.out.1.rd.2 (noCap' HO4.out.1) (Nat.le_trans HW3.out.2.2 HO4.out.2.2.2) (by have h1 := HT.out.2.1; have h2 := HEL.out; have h3 := HM4.out; omega) ?_)
                              intro v' w' h1 h2 _
                              obtain ⟨A2, k2, hv2⟩ := h1.slice
                              obtain ⟨m2, hm2⟩ : ∃ m2, (t ++ encB x).length = m2 := ⟨_, rfl⟩
                              rw [hm2] at hv2
                              subst hv2
                              have HR := Lib.hid (And.intro h1 (HW3.out.1.trans ((HO4.out.2.1.mono HW3.out.2.2).trans (Own.grown HO4.out.2.2.1 h2 (Below.refl w.heap.size _) (Nat.le_trans HW3.out.2.2 HO4.out.2.2.2)))))
                              clear h1 h2 hm2
                              go_wp2_with fail
                              go_roundw
                              case rel => exact UInv.step (q := p6) (by first | rfl | simp) HP6.out.2.2 (by rw [HNL.out]; exact HP6.out.2.1) HT.out.1 HT.out.2.2 (by rw [HP6.out.1, ← HPP.out]; exact HK.out) HR.out.1 HR.out.2
                              case measure => have h1 := HP6.out; simp [intOf]; omega
                          · have hx1 : 55296 ≤ x ∧ x < 56320 := by omega
                            have hnE : ∀ kk, halfF (L.drop p6) = .error kk → X = .error kk := by
                              intro kk hh
                              rw [HP6.out.1] at hh
                              have hnf : numberedF r2 = .error kk := by
                                unfold numberedF
                                rw [hnum]
                                dsimp only
                                rw [if_neg cA, if_neg cB, hh]
                              have h2 := HK.out
                              rw [hnf] at h2
                              exact h2.symm
                            obtain ⟨p12, hp12⟩ : ∃ p12, p6 + 6 = p12 := ⟨_, rfl⟩
                            have hnO : ∀ y, halfF (L.drop p6) = .ok y → litF fullP m (L.drop p12) (t ++ encB (65536 + (x - 55296) * 1024 + (y - 56320))) p12 = X := by
                              intro y hh
                              have hh2 := hh
                              rw [HP6.out.1] at hh2
                              have hnf := numberedF_two r2 x y hnum hx1 hh2
                              have h2 := HK.out
                              rw [hnf] at h2
                              dsimp only [List.drop_succ_cons] at h2
                              rw [show L.drop p12 = r2.drop 10 by rw [← hp12, ← List.drop_drop, HP6.out.1, List.drop_drop], ← hp12, ← hp6]
                              exact h2
                            have HNE := Lib.hid hnE
                            have HNO := Lib.hid hnO
                            have dB1 : decide ((56320 : Int) ≤ (x : Int)) = false := decide_eq_false (by omega)
                            have dB2 : decide ((55296 : Int) ≤ (x : Int)) = true := decide_eq_true (by omega)
                            have dB3 : decide ((x : Int) < 56320) = true := decide_eq_true (by omega)
                            have hp6b : p6 ≤ 306 := by omega
                            have HP12 := Lib.hid hp12
                            clear hnum cA cB hp6 hnE hnO hp12 HK
                            go_wp2_with fail
                            refine (HF.out _).mono ?_
                            rintro e wz ⟨rfl, hwz⟩
                            have HW3 : RowKit.Hid (Below w.heap.size w wz ∧ Own wz w.heap.size (.slice A n k) t ∧ w.heap.size ≤ wz.heap.size) := Lib.hid (by rw [hwz]; exact HWB2.out)
                            clear hwz HWB2 HF
                            go_wp2_with fail
                            have hbo := Own.lit wz #[.int .u8 92, .int .u8 117] [92, 117] 2 rfl rfl (by decide)
                            have hbk := below_make (World.grownBy_alloc wz (.cells #[.int .u8 92, .int .u8 117] 5) none)
                            have hc0 : (wz.alloc (.cells #[.int .u8 92, .int .u8 117] 5)).cell? ⟨wz.heap.size, 0, none⟩ = some (.int .u8 92) := World.ownsRow.cells hbo (g := wz.heap.size) rfl 0 _ rfl
                            have hc1 : (wz.alloc (.cells #[.int .u8 92, .int .u8 117] 5)).cell? ⟨wz.heap.size, 1, none⟩ = some (.int .u8 117) := World.ownsRow.cells hbo (g := wz.heap.size) rfl 1 _ rfl
                            have HW4 := Lib.hid (And.intro (HW3.out.1.trans (hbk.mono HW3.out.2.2)) (And.intro (HW3.out.2.1.kept hbk) (Nat.le_trans HW3.out.2.2 hbk.size)))
                            obtain ⟨g2, hg2⟩ : ∃ g2, wz.heap.size = g2 := ⟨_, rfl⟩
                            rw [hg2] at hc0 hc1 ⊢
                            have HC := Lib.hid (And.intro hc0 hc1)
                            clear hbo hbk hg2 hc0 hc1 HW3
                            generalize wz.alloc (.cells #[.int .u8 92, .int .u8 117] 5) = wc at HC HW4 ⊢
                            go_loopw [132] (fun i wr3 => ∃ q : Nat, i = .int .i64 (q : Int) ∧ q ≤ 2 ∧ (1 ≤ q → ∃ r7, L.drop p6 = 92 :: r7) ∧ (2 ≤ q → ∃ r8, L.drop p6 = 92 :: 117 :: r8) ∧ wr3 = wc) (fun i _ => 2 - (intOf i).toNat)
                            case atStart => exact ⟨0, rfl, by decide, fun h => absurd h (by decide), fun h => absurd h (by decide), rfl⟩
                            case round =>
                              obtain ⟨q, rfl, hq2, hqa, hqb, hwq⟩ := hrel
                              subst hwq
                              obtain ⟨hc0, hc1⟩ := HC.out
                              match q, hq2, hqa, hqb with
                              | 0, _, _, _ =>
                                rcases hd6 : L.drop p6 with _ | ⟨a6, r7⟩
                                · have HE := Lib.hid (HNE.out 10 (by rw [hd6]; rfl))
                                  have hge : ns ≤ p6 := by
                                    have := congrArg List.length hd6
                                    rw [List.length_drop, List.length_nil, HNL.out] at this
                                    omega
                                  have dd : decide ((ns : Int) ≤ (p6 : Int)) = true := decide_eq_true (by omega)
                                  have ddn : decide (ns ≤ p6) = true := decide_eq_true hge
                                  clear hge hd6
                                  go_wp2_with fail
                                  refine bodyPost_ret (results_tmp3 rfl _ _ _) rfl ?_
                                  exact ⟨by rw [HE.out]; rfl, HW4.out.1⟩
                                · obtain ⟨h6a, _, h6c⟩ := drop_one hd6
                                  rw [HNL.out] at h6c
                                  have k6 := fun w => idx_at s L HL.out p6 a6 h6a w
                                  obtain ⟨y6, hy6⟩ : ∃ y6, a6.toNat = y6 := ⟨_, rfl⟩
                                  rw [hy6] at k6
                                  have dd : decide ((ns : Int) ≤ (p6 : Int)) = false := decide_eq_false (by omega)
                                  have ddn : decide (ns ≤ p6) = false := decide_eq_false (by omega)
                                  by_cases c92 : y6 = 92
                                  · have ha : a6 = 92 := UInt8.toNat_inj.1 (hy6.trans c92)
                                    rw [ha] at hd6
                                    have HD6 := Lib.hid hd6
                                    have HA := Lib.hid ha
                                    subst c92
                                    clear hd6 ha h6a hy6
                                    go_wp2_with fail
                                    go_roundw
                                    case rel => exact ⟨1, rfl, by decide, fun _ => ⟨r7, by first | exact HD6.out | rw [HA.out]⟩, fun h => absurd h (by decide), trivial⟩
                                    case measure => simp [intOf]
                                  · have ha : a6 ≠ 92 := by rintro rfl; exact c92 hy6.symm
                                    have HE := Lib.hid (HNE.out 9 (by rw [hd6]; show (if a6 ≠ 92 then Except.error 9 else halfG r7) = _; rw [if_pos ha]))
                                    have e92 : ((y6 : Int) == 92) = false := by rw [beq_eq_false_iff_ne]; omega
                                    have e92b : ((y6 : Int) != 92) = true := by rw [bne_iff_ne]; omega
                                    clear hd6 ha h6a hy6
                                    go_wp2_with fail
                                    refine bodyPost_ret (results_tmp3 rfl _ _ _) rfl ?_
                                    exact ⟨by rw [HE.out]; rfl, HW4.out.1⟩
                              | 1, _, hqa, _ =>
                                obtain ⟨r7, hd6⟩ := hqa (by decide)
                                obtain ⟨_, hd7, _⟩ := drop_one hd6
                                obtain ⟨p7, hp7⟩ : ∃ p7, p6 + 1 = p7 := ⟨_, rfl⟩
                                have e7 : (p6 : Int) + 1 = (p7 : Int) := by omega
                                rw [hp7] at hd7
                                have hp7b : p7 ≤ 307 := by omega
                                rcases hr7 : r7 with _ | ⟨a7, r8⟩
                                · rw [hr7] at hd6 hd7
                                  have HE := Lib.hid (HNE.out 10 (by rw [hd6]; rfl))
                                  have hge : ns ≤ p7 := by
                                    have := congrArg List.length hd7
                                    rw [List.length_drop, List.length_nil, HNL.out] at this
                                    omega
                                  have dd : decide ((ns : Int) ≤ (p7 : Int)) = true := decide_eq_true (by omega)
                                  have ddn : decide (ns ≤ p7) = true := decide_eq_true hge
                                  clear hge hd6 hd7 hr7 hp7
                                  go_wp2_with fail
                                  refine bodyPost_ret (results_tmp3 rfl _ _ _) rfl ?_
                                  exact ⟨by rw [HE.out]; rfl, HW4.out.1⟩
                                · rw [hr7] at hd6 hd7
                                  obtain ⟨h7a, _, h7c⟩ := drop_one hd7
                                  rw [HNL.out] at h7c
                                  have k7 := fun w => idx_at s L HL.out p7 a7 h7a w
                                  obtain ⟨y7, hy7⟩ : ∃ y7, a7.toNat = y7 := ⟨_, rfl⟩
                                  rw [hy7] at k7
                                  have dd : decide ((ns : Int) ≤ (p7 : Int)) = false := decide_eq_false (by omega)
                                  have ddn : decide (ns ≤ p7) = false := decide_eq_false (by omega)
                                  by_cases c117 : y7 = 117
                                  · have ha : a7 = 117 := UInt8.toNat_inj.1 (hy7.trans c117)
                                    rw [ha] at hd6
                                    have HD6 := Lib.hid hd6
                                    subst c117
                                    clear hd6 hd7 hr7 ha h7a hy7 hp7
                                    go_wp2_with fail
                                    go_roundw
                                    case rel => exact ⟨2, rfl, by decide, fun _ => ⟨_, HD6.out⟩, fun _ => ⟨r8, HD6.out⟩, trivial⟩
                                    case measure => simp [intOf]
                                  · have ha : a7 ≠ 117 := by rintro rfl; exact c117 hy7.symm
                                    have HE := Lib.hid (HNE.out 9 (by rw [hd6]; show (if (92 : UInt8) ≠ 92 then Except.error 9 else (if a7 ≠ 117 then Except.error 9 else halfH r8)) = _; rw [if_neg (by decide), if_pos ha]))
                                    have e92 : ((y7 : Int) == 117) = false := by rw [beq_eq_false_iff_ne]; omega
                                    have e92b : ((y7 : Int) != 117) = true := by rw [bne_iff_ne]; omega
                                    clear hd6 hd7 hr7 ha h7a hy7 hp7
                                    go_wp2_with fail
                                    refine bodyPost_ret (results_tmp3 rfl _ _ _) rfl ?_
                                    exact ⟨by rw [HE.out]; rfl, HW4.out.1⟩
                              | 2, _, _, hqb =>
                                obtain ⟨r8, hd6⟩ := hqb (by decide)
                                obtain ⟨p8, hp8⟩ : ∃ p8, p6 + 2 = p8 := ⟨_, rfl⟩
                                have e8 : (p6 : Int) + 2 = (p8 : Int) := by omega
                                have hd8 : L.drop p8 = r8 := by rw [← hp8, ← List.drop_drop, hd6]; rfl
                                have HH : RowKit.Hid (halfF (L.drop p6) = halfH r8) := Lib.hid (by
                                  rw [hd6]
                                  show (if (92 : UInt8) ≠ 92 then Except.error 9 else (if (117 : UInt8) ≠ 117 then Except.error 9 else halfH r8)) = _
                                  rw [if_neg (by decide), if_neg (by decide)])
                                have HF := Lib.hid (fun w => figures_any s L p8 9 w HL.out (by omega))
                                rw [hd8] at HF
                                have hp8b : p8 ≤ 308 := by omega
                                cases hnum : numF 9 4 r8 0 with
                                | error kk =>
                                  rw [hnum] at HF
                                  unfold figR at HF
                                  dsimp only at HF
                                  have HE := Lib.hid (HNE.out kk (by rw [HH.out]; unfold halfH; rw [hnum]))
                                  rcases numF_err 9 4 r8 0 kk hnum with rfl | rfl
                                  all_goals
                                    clear hnum hd6 hd8 hp8
                                    go_wp2_with fail
                                    refine (HF.out _).mono ?_
                                    rintro e wy ⟨rfl, hwy⟩
                                    have HB3 : RowKit.Hid (Below w.heap.size w wy) := Lib.hid (by rw [hwy]; exact HW4.out.1)
                                    clear hwy
                                    go_wp2_with fail
                                    refine bodyPost_ret (results_tmp3 rfl _ _ _) rfl ?_
                                    exact ⟨by rw [HE.out]; rfl, HB3.out⟩
                                | ok y =>
                                  rw [hnum] at HF
                                  unfold figR at HF
                                  dsimp only at HF
                                  obtain ⟨hr4, hy65⟩ := numF_ok hnum
                                  have hp12n : p12 ≤ ns ∧ p < p12 := by
                                    have h1 := congrArg List.length hd8
                                    rw [List.length_drop, HNL.out] at h1
                                    have h2 := HP12.out
                                    have h3 := HP6.out.2.2
                                    omega
                                  have HP13 := Lib.hid (And.intro trivial hp12n)
                                  clear hp12n hr4
                                  by_cases cC : 56320 ≤ y ∧ y ≤ 57343
                                  · have hO := HNO.out y (by rw [HH.out]; unfold halfH; rw [hnum]; dsimp only; rw [if_pos cC])
                                    have HO5 := Lib.hid hO
                                    obtain ⟨c, hc⟩ : ∃ c, 65536 + (x - 55296) * 1024 + (y - 56320) = c := ⟨_, rfl⟩
                                    rw [hc] at HO5
                                    have HPUT := Lib.hid (fun w => put_any c w (by omega))
                                    have hel : (encB c).length ≤ 4 := by rw [encB_length]; exact (widC_pos c).2
                                    have HEL := Lib.hid hel
                                    have dC1 : decide ((y : Int) < 56320) = false := decide_eq_false (by omega)
                                    have dC2 : decide ((57344 : Int) ≤ (y : Int)) = false := decide_eq_false (by omega)
                                    obtain ⟨xx, hxx⟩ : ∃ xx, x - 55296 = xx := ⟨_, rfl⟩
                                    have e9 : (x : Int) - 55296 = (xx : Int) := by omega
                                    have e10 : (65536 : Int) + (xx : Int) * 1024 + (y : Int) - 56320 = (c : Int) := by omega
                                    have e12 : (p6 : Int) + 6 = (p12 : Int) := by have := HP12.out; omega
                                    have hxb : xx ≤ 1023 := by omega
                                    have hyb : y ≤ 57343 := cC.2
                                    clear hnum hd6 hd8 hp8 hO hc hxx cC hel
                                    go_wp2_with fail
                                    refine (HF.out _).mono ?_
                                    rintro e wy ⟨rfl, hwy⟩
                                    have HW5 : RowKit.Hid (Below w.heap.size w wy ∧ Own wy w.heap.size (.slice A n k) t ∧ w.heap.size ≤ wy.heap.size) := Lib.hid (by rw [hwy]; exact HW4.out)
                                    clear hwy
                                    go_wp2_with fail
                                    refine (HPUT.out _).mono ?_
                                    rintro e w4 ⟨v4, rfl, h41, h42⟩
                                    obtain ⟨A4, k4, hv4⟩ := h41.slice
                                    obtain ⟨m4, hm4⟩ : ∃ m4, (encB c).length = m4 := ⟨_, rfl⟩
                                    rw [hm4] at hv4
                                    subst hv4
                                    have HM4 := Lib.hid hm4
                                    have HO4 := Lib.hid (And.intro h41 (And.intro (below_make h42) (And.intro (HW5.out.2.1.kept (below_make h42)) h42.size)))
                                    clear h41 h42 hm4
                                    go_wp2_with (at_builtin; refine cat8 w4 rfl (.tmp 176) (.tmp 178) rfl w.heap.size w4.heap.size (.slice A n k) t (encB c) A4 m4 k4 rfl rfl HO4.out.2.2.1 HO4.out.1.rd.2 (noCap' HO4.out.1) (Nat.le_trans HW5.out.2.2 HO4.out.2.2.2) (by have h1 := HT.out.2.1; have h2 := HEL.out; have h3 := HM4.out; omega) ?_)
                                    intro v' w' h1 h2 _
                                    obtain ⟨A2, k2, hv2⟩ := h1.slice
                                    obtain ⟨m2, hm2⟩ : ∃ m2, (t ++ encB c).length = m2 := ⟨_, rfl⟩
                                    rw [hm2] at hv2
                                    subst hv2
                                    have HR := Lib.hid (And.intro h1 (HW5.out.1.trans ((HO4.out.2.1.mono HW5.out.2.2).trans (Own.grown HO4.out.2.2.1 h2 (Below.refl w.heap.size _) (Nat.le_trans HW5.out.2.2 HO4.out.2.2.2)))))
                                    clear h1 h2 hm2
                                    go_wp2_with fail
                                    go_roundw
                                    case rel => exact UInv.step (q := p12) (by first | rfl | simp) HP13.out.2.2 (by rw [HNL.out]; exact HP13.out.2.1) HT.out.1 HT.out.2.2 HO5.out HR.out.1 HR.out.2
                                    case measure => have h1 := HP13.out; simp [intOf]; omega
                                  · have HE := Lib.hid (HNE.out 9 (by rw [HH.out]; unfold halfH; rw [hnum]; dsimp only; rw [if_neg cC]))
                                    have hd : decide ((y : Int) < 56320) = true ∨ (decide ((y : Int) < 56320) = false ∧ decide ((57344 : Int) ≤ (y : Int)) = true) := by
                                      by_cases h : y < 56320
                                      · exact .inl (decide_eq_true (by omega))
                                      · exact .inr ⟨decide_eq_false (by omega), decide_eq_true (by omega)⟩
                                    clear hnum hd6 hd8 hp8 cC
                                    rcases hd with dd1 | ⟨dd1, dd2⟩
                                    all_goals
                                      go_wp2_with fail
                                      refine (HF.out _).mono ?_
                                      rintro e wy ⟨rfl, hwy⟩
                                      have HB3 : RowKit.Hid (Below w.heap.size w wy) := Lib.hid (by rw [hwy]; exact HW4.out.1)
                                      clear hwy
                                      go_wp2_with fail
                                      refine bodyPost_ret (results_tmp3 rfl _ _ _) rfl ?_
                                      exact ⟨by rw [HE.out]; rfl, HB3.out⟩
end Go.Proofs.YtanmkddmebhdpaaDoor
