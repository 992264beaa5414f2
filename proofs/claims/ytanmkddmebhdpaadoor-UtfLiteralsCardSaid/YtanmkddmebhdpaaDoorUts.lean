/- Contracts of appendSign, quoted, Quote, Narrow. -/
import Derived.Test.YtanmkddmebhdpaaDoorUtn
namespace Go.Proofs.YtanmkddmebhdpaaDoor
set_option maxRecDepth 20000
open Go.RowKit Go.Lib

/-- What lay below B stands, and so does each range over a text. -/
structure AS (B : Nat) (w w' : World) : Prop where
  below : Below B w w'
  keeps : ∀ (k : Nat) (s : ByteArray) (p : Nat), w.heap[k]? = some (Obj.stringIter s p) → w'.heap[k]? = some (Obj.stringIter s p)
theorem AS.trans {B : Nat} {w w1 w2 : World} (h : AS B w w1) (h' : AS B w1 w2) : AS B w w2 := ⟨h.below.trans h'.below, fun k s p hk => h'.keeps k s p (h.keeps k s p hk)⟩
theorem AS.of_below {B : Nat} {w w' : World} (hB : B ≤ w.heap.size) (h : Below w.heap.size w w') : AS B w w' :=
  ⟨h.mono hB, fun k s p hk => by rw [h.block k (Array.getElem?_eq_some_iff.1 hk).1]; exact hk⟩
theorem own_iter {w : World} {B : Nat} {v : Value} {l : List UInt8} (h : Own w B v l) {k : Nat} {s : ByteArray} {p : Nat} (hk : w.heap[k]? = some (Obj.stringIter s p)) : some k ≠ v.ownBlock := by
  rcases h.2 with ⟨hv, _⟩ | ⟨g, cap, cur, hv, hb, hg, _⟩
  · rw [hv]; intro e; cases e
  · rw [hv]
    intro e
    have e : k = g := by injection e
    subst e
    rw [hk] at hg
    cases hg
theorem Own.iterAt {w : World} {B : Nat} {v : Value} {l : List UInt8} (h : Own w B v l) {k : Nat} {s : ByteArray} {p : Nat} (hk : w.heap[k]? = some (.stringIter s p)) (p' : Nat) : Own (w.iterAt k s p') B v l := by
  refine ⟨h.1, ?_⟩
  rcases h.2 with h1 | ⟨q, cap, cur, h1, h2, h3, h4⟩
  · exact .inl h1
  · have hne : q ≠ k := by
      intro e
      subst e
      rw [hk] at h3
      cases h3
    exact .inr ⟨q, cap, cur, h1, h2, (Lib.iterAt_other w k q s p' hne).trans h3, h4⟩
theorem AS.of_own {B : Nat} {w w' : World} {v : Value} {l : List UInt8} (ho : Own w B v l) (hB : B ≤ w.heap.size) (h : w.grownBy w' v.ownBlock) : AS B w w' :=
  ⟨Own.grown ho h (Below.refl B w) hB, fun k s p hk => by rw [h.block k (Array.getElem?_eq_some_iff.1 hk).1 (own_iter ho hk)]; exact hk⟩
theorem own_none (v : Value) : v.ownBlock = none ∨ v.ownBlock ≠ none := by cases v.ownBlock <;> simp
theorem Own.kept {B : Nat} {w w' : World} {v : Value} {l : List UInt8} (ho : Own w B v l) (h : Below w.heap.size w w') : Own w' B v l :=
  World.ownsRow.kept ho ⟨h.os, h.tape, h.output, h.size, fun k hk _ => h.block k hk⟩ (own_none v)
set_option maxHeartbeats 2000000 in
theorem appsign (A : Option Addr) (n k B c : Nat) (nar : Bool) (l : List UInt8) (w : World) (ho : Own w B (.slice A n k) l) (hB : B ≤ w.heap.size) (hl : l.length ≤ 800000) (hc : okc c) :
    Calls Tryd.prog 30 #[.slice A n k, .int .i32 (c : Int), .bool nar] w fun e w' => ∃ v', e = .returned v' ∧ Own w' B v' (l ++ escP nar c) ∧ AS B w w' := by
  have HX := Lib.hid (ixr c hc w)
  have HO := Lib.hid (And.intro ho (And.intro hl hB))
  clear ho hl hB
  rw [show signsB = ⟨#[34, 92, 8, 12, 10, 13, 9]⟩ from rfl] at HX
  by_cases h1 : signsL.idxOf c < 7
  · obtain ⟨i, hi⟩ : ∃ i, signsL.idxOf c = i := ⟨_, rfl⟩
    rw [show idxP c = (i : Int) by unfold idxP; rw [if_pos h1, hi]] at HX
    rw [hi] at h1
    obtain ⟨u, hu⟩ : ∃ u, nb (lettersL.getD i 0) = u := ⟨_, rfl⟩
    have HF : RowKit.Hid (escP nar c = [92, u]) := Lib.hid (by unfold escP; rw [if_pos (by omega), hi, hu])
    have kx : ∀ w, (Instr.index 9 (.string ⟨#[34, 92, 98, 102, 110, 114, 116]⟩) (.int .i64 (i : Int))).run Tryd.prog w = .ok (.int .u8 (u.toNat : Int)) w := fun w => by
      rw [← hu, run_index_string (P := Tryd.prog) w 9 _ .i64 (i : Int) Tryd.underlying9, dif_pos ⟨by omega, by show (i : Int) < ((7 : Nat) : Int); omega⟩]
      have key : ∀ i : Fin 7, ((⟨#[34, 92, 98, 102, 110, 114, 116]⟩ : ByteArray)[i.val]'(i.isLt)) = nb (lettersL.getD i.val 0) := by decide +kernel
      simp only [Int.toNat_natCast]
      exact congrArg (fun u : UInt8 => Result.ok (Value.int .u8 (u.toNat : Int)) w) (key ⟨i, h1⟩)
    have d1 : decide ((0 : Int) ≤ (i : Int)) = true := decide_eq_true (by omega)
    clear hu hi h1
    go_enter Tryd.func30, Tryd.ntmps30
    go_wp2_with fail
    refine HX.out.mono ?_
    rintro e w1 ⟨rfl, hb1⟩
    have HO1 := Lib.hid (And.intro (HO.out.1.kept hb1) (And.intro (AS.of_below HO.out.2.2 hb1) (Nat.le_trans HO.out.2.2 hb1.size)))
    clear hb1 HX
    go_wp2_with (at_builtin; refine push8 w1 rfl (.tmp 13) (.tmp 16) rfl B (.slice A n k) l [92, u] _ 2 rfl rfl HO1.out.1 rfl rfl HO1.out.2.2 (by have := HO.out.2.1; omega) ?_)
    intro v' w' h1 h2 _
    have HR := Lib.hid (And.intro h1 (HO1.out.2.1.trans (AS.of_own HO1.out.1 HO1.out.2.2 h2)))
    clear h1 h2
    go_wp2_with fail
    go_ret
    exact ⟨v', rfl, by rw [HF.out]; exact HR.out.1, HR.out.2⟩
  · rw [show idxP c = -1 by unfold idxP; rw [if_neg h1]] at HX
    by_cases h2 : 32 ≤ c ∧ (c < 127 ∨ nar = false)
    · have HF : RowKit.Hid (escP nar c = encB c) := Lib.hid (by unfold escP; rw [if_neg h1, if_pos h2])
      have HAP := Lib.hid (fun w ho hB => apprune A n k B c l w ho hB (by have := HO.out.2.1; omega) hc)
      have d1 : decide ((32 : Int) ≤ (c : Int)) = true := decide_eq_true (by omega)
      obtain ⟨b1, hb1⟩ : ∃ b1, decide ((c : Int) < 127) = b1 := ⟨_, rfl⟩
      have hbn : b1 = true ∨ (b1 = false ∧ nar = false) := by
        rcases h2.2 with h3 | h3
        · left; rw [← hb1]; exact decide_eq_true (by omega)
        · cases b1
          · exact .inr ⟨rfl, h3⟩
          · exact .inl rfl
      clear h1 h2
      go_enter Tryd.func30, Tryd.ntmps30
      go_wp2_with fail
      refine HX.out.mono ?_
      rintro e w1 ⟨rfl, hb1'⟩
      have HO1 := Lib.hid (And.intro (HO.out.1.kept hb1') (And.intro (AS.of_below HO.out.2.2 hb1') (Nat.le_trans HO.out.2.2 hb1'.size)))
      clear hb1' HX
      have HAP1 := Lib.hid (HAP.out w1 HO1.out.1 HO1.out.2.2)
      rcases hbn with rfl | ⟨rfl, rfl⟩
      all_goals
        go_wp2_with fail
        refine HAP1.out.mono ?_
        rintro e w2 ⟨v', rfl, h1, h2⟩
        have HR := Lib.hid (And.intro h1 (HO1.out.2.1.trans (AS.of_own HO1.out.1 HO1.out.2.2 h2)))
        clear h1 h2
        go_wp2_with fail
        go_ret
        exact ⟨v', rfl, by rw [HF.out]; exact HR.out.1, HR.out.2⟩
    · have hcase : (decide ((32 : Int) ≤ (c : Int)) = false ∧ c < 32) ∨ (decide ((32 : Int) ≤ (c : Int)) = true ∧ decide ((c : Int) < 127) = false ∧ nar = true) := by
        by_cases h3 : 32 ≤ c
        · right
          refine ⟨decide_eq_true (by omega), decide_eq_false (fun h4 => h2 ⟨h3, .inl (by omega)⟩), ?_⟩
          cases nar
          · exact absurd ⟨h3, .inr rfl⟩ h2
          · rfl
        · exact .inl ⟨decide_eq_false (by omega), by omega⟩
      by_cases h4 : c < 65536
      · have HF : RowKit.Hid (escP nar c = fourL c) := Lib.hid (by unfold escP; rw [if_neg h1, if_neg h2, if_pos h4])
        have HAP := Lib.hid (fun w ho hB => appnum A n k B c l w ho hB (by have := HO.out.2.1; omega) h4)
        have d4 : decide ((c : Int) < 65536) = true := decide_eq_true (by omega)
        clear h1 h2 h4
        rcases hcase with ⟨d1, _⟩ | ⟨d1, d2, rfl⟩
        all_goals
          go_enter Tryd.func30, Tryd.ntmps30
          go_wp2_with fail
          refine HX.out.mono ?_
          rintro e w1 ⟨rfl, hb1'⟩
          have HO1 := Lib.hid (And.intro (HO.out.1.kept hb1') (And.intro (AS.of_below HO.out.2.2 hb1') (Nat.le_trans HO.out.2.2 hb1'.size)))
          clear hb1'
          have HAP1 := Lib.hid (HAP.out w1 HO1.out.1 HO1.out.2.2)
          go_wp2_with fail
          refine HAP1.out.mono ?_
          rintro e w2 ⟨v', rfl, h1, h2⟩
          have HR := Lib.hid (And.intro h1 (HO1.out.2.1.trans (AS.of_own HO1.out.1 HO1.out.2.2 h2)))
          clear h1 h2
          go_wp2_with fail
          go_ret
          exact ⟨v', rfl, by rw [HF.out]; exact HR.out.1, HR.out.2⟩
      · have hmx : c ≤ 1114111 := by unfold okc at hc; omega
        obtain ⟨p, hp⟩ : ∃ p, c - 65536 = p := ⟨_, rfl⟩
        obtain ⟨x1, hx1⟩ : ∃ x1, 55296 + p / 1024 = x1 := ⟨_, rfl⟩
        obtain ⟨x2, hx2⟩ : ∃ x2, 56320 + p % 1024 = x2 := ⟨_, rfl⟩
        have HF : RowKit.Hid (escP nar c = fourL x1 ++ fourL x2) := Lib.hid (by unfold escP; rw [if_neg h1, if_neg h2, if_neg h4, hp, hx1, hx2])
        have HAP := Lib.hid (fun w ho hB => appnum A n k B x1 l w ho hB (by have := HO.out.2.1; omega) (by omega))
        have d4 : decide ((c : Int) < 65536) = false := decide_eq_false (by omega)
        have e0 : (c : Int) - 65536 = (p : Int) := by omega
        have e1 : bits .and .i32 (p : Int) 1023 = ((p % 1024 : Nat) : Int) := and1023 p _ rfl (by omega)
        have e2 : (55296 : Int) + (p : Int) / 1024 = (x1 : Int) := by omega
        obtain ⟨q, hq⟩ : ∃ q, p % 1024 = q := ⟨_, rfl⟩
        rw [hq] at e1
        have e3 : (56320 : Int) + (q : Int) = (x2 : Int) := by omega
        have e4 : wrap32 (x2 : Int) = (x2 : Int) := by unfold wrap32; omega
        have HX2 : RowKit.Hid (x2 < 65536) := Lib.hid (by omega)
        have HX1 : RowKit.Hid (x1 < 65536) := Lib.hid (by omega)
        have hdr : decide ((32 : Int) ≤ (c : Int)) = true ∧ decide ((c : Int) < 127) = false ∧ nar = true := by
          rcases hcase with ⟨_, h⟩ | h
          · omega
          · exact h
        obtain ⟨d1, d2, rfl⟩ := hdr
        have hpm : p < 1048576 := by omega
        clear hcase h1 h2 h4 hp hx1 hx2 hq hmx hc
        go_enter Tryd.func30, Tryd.ntmps30
        go_wp2_with fail
        refine HX.out.mono ?_
        rintro e w1 ⟨rfl, hb1'⟩
        have HO1 := Lib.hid (And.intro (HO.out.1.kept hb1') (And.intro (AS.of_below HO.out.2.2 hb1') (Nat.le_trans HO.out.2.2 hb1'.size)))
        clear hb1'
        have HAP1 := Lib.hid (HAP.out w1 HO1.out.1 HO1.out.2.2)
        go_wp2_with fail
        refine HAP1.out.mono ?_
        rintro e w2 ⟨v2, rfl, h1, h2⟩
        obtain ⟨A2, k2, hv2⟩ := h1.slice
        subst hv2
        have HO2 := Lib.hid (And.intro h1 (And.intro (HO1.out.2.1.trans (AS.of_own HO1.out.1 HO1.out.2.2 h2)) (Nat.le_trans HO1.out.2.2 h2.size)))
        clear h1 h2
        generalize (l ++ fourL x1).length = n2 at HO2 ⊢
        have HAP2 := Lib.hid (appnum A2 n2 k2 B x2 (l ++ fourL x1) w2 HO2.out.1 HO2.out.2.2 (by rw [List.length_append, four_len]; have := HO.out.2.1; omega) HX2.out)
        go_wp2_with fail
        refine HAP2.out.mono ?_
        rintro e w3 ⟨v', rfl, h1, h2⟩
        have HR := Lib.hid (And.intro h1 (HO2.out.2.1.trans (AS.of_own HO2.out.1 HO2.out.2.2 h2)))
        clear h1 h2
        go_wp2_with fail
        go_ret
        exact ⟨v', rfl, by rw [HF.out, ← List.append_assoc]; exact HR.out.1, HR.out.2⟩
theorem escP_le (nar : Bool) (c : Nat) : (escP nar c).length ≤ 12 := by
  unfold escP
  split
  · simp
  · split
    · rw [encB_length]; have := (widC_pos c).2; omega
    · split
      · rw [four_len]; omega
      · rw [List.length_append, four_len, four_len]; omega
theorem escs_le (nar : Bool) : ∀ cs : List Nat, (cs.flatMap (escP nar)).length ≤ 12 * cs.length
  | [] => by simp
  | c :: cs => by
    rw [List.flatMap_cons, List.length_append, List.length_cons]
    have := escP_le nar c
    have := escs_le nar cs
    omega
theorem flat_le : ∀ cs : List Nat, cs.length ≤ (flatC cs).length
  | [] => by simp
  | c :: cs => by
    rw [flatC_cons, List.length_append, List.length_cons, encB_length]
    have := (widC_pos c).1
    have := flat_le cs
    omega
/-- What Quote and Narrow answer. -/
def quoR (nar : Bool) (cs : List Nat) (r : List UInt8) : Ending := if r = [] then .returned (.tuple #[.string ⟨(quoP nar cs).toArray⟩, .nilIface]) else .returned (.tuple #[.string ⟨#[]⟩, .iface 39 (.int .i64 9)])
set_option maxHeartbeats 4000000 in
theorem quoted_any (s : ByteArray) (cs : List Nat) (r : List UInt8) (nar : Bool) (w : World) (h : s.data.toList = flatC cs ++ r) (hc : ∀ c ∈ cs, okc c) (hr : halt r) (hs : s.size ≤ 60000) :
    Calls Tryd.prog 21 #[.string s, .bool nar] w fun e w' => e = quoR nar cs r ∧ Below w.heap.size w w' := by
  have HV := Lib.hid (valid_any s cs r w h hc hr (by omega))
  unfold quoR
  by_cases hr0 : r = []
  rotate_left
  · rw [if_neg hr0]
    rw [decide_eq_false hr0] at HV
    clear h hc hr hs hr0
    go_enter Tryd.func21, Tryd.ntmps21
    go_wp2_with fail
    refine HV.out.mono ?_
    rintro e w1 ⟨rfl, hb1⟩
    have HB1 := Lib.hid hb1
    clear hb1 HV
    go_wp2_with fail
    go_ret2
    exact ⟨rfl, HB1.out⟩
  · rw [if_pos hr0]
    rw [decide_eq_true hr0] at HV
    subst hr0
    rw [List.append_nil] at h
    have hsz : s.size = (flatC cs).length := by rw [Lib.size_eq, h]
    have HS := Lib.hid (And.intro h (And.intro hc (And.intro hs hsz)))
    clear h hc hr hs hsz
    go_enter Tryd.func21, Tryd.ntmps21
    go_wp2_with fail
    refine HV.out.mono ?_
    rintro e w1 ⟨rfl, hb1⟩
    have HB1 := Lib.hid hb1
    clear hb1 HV
    go_wp2_with fail
    have hown : Own (w1.alloc (.cells #[.int .u8 34] 5)) w1.heap.size (.slice (some ⟨w1.heap.size, 0, none⟩) 1 1) [34] := Own.lit w1 #[.int .u8 34] [34] 1 rfl rfl (by decide)
    have hsz1 : (w1.alloc (.cells #[.int .u8 34] 5)).heap.size = w1.heap.size + 1 := by simp
    have HO := Lib.hid (hown.kept (w' := (w1.alloc (.cells #[.int .u8 34] 5)).iter s 0) (below_make (World.grownBy_alloc _ _ none)))
    have hit0 := World.iter_heap (w1.alloc (.cells #[.int .u8 34] 5)) s 0
    rw [hsz1] at hit0
    have HI := Lib.hid hit0
    have HBB : RowKit.Hid (Below w.heap.size w ((w1.alloc (.cells #[.int .u8 34] 5)).iter s 0) ∧ w.heap.size ≤ w1.heap.size) := Lib.hid ⟨HB1.out.trans ((below_make ((World.grownBy_alloc w1 (.cells #[.int .u8 34] 5) none).trans (World.grownBy_alloc _ (.stringIter s 0) none))).mono HB1.out.size), HB1.out.size⟩
    clear hown hsz1 hit0
    generalize (w1.alloc (.cells #[.int .u8 34] 5)).iter s 0 = wi at HO HI HBB ⊢
    obtain ⟨N, hN⟩ : ∃ N, w1.heap.size = N := ⟨_, rfl⟩
    rw [hN] at HO HI HBB ⊢
    clear hN HB1
    go_loopw [6] (fun b wr => ∃ (c1 c2 : List Nat) (A : Option Addr) (n k : Nat), c1 ++ c2 = cs ∧ b = .slice A n k ∧ Own wr N (.slice A n k) (34 :: c1.flatMap (escP nar)) ∧ wr.heap[N + 1]? = some (Obj.stringIter s (flatC c1).length) ∧ Below w.heap.size w wr) (fun _ wr => s.size - wr.iterPos (N + 1))
    case atStart => exact ⟨[], cs, _, 1, 1, rfl, rfl, HO.out, HI.out, HBB.out.1⟩
    case round =>
      clear HO HI
      obtain ⟨c1, c2, A, n, k, hcs, rfl, ho, hit, hbw⟩ := hrel
      have hdrop : s.data.toList.drop (flatC c1).length = flatC c2 := by
        rw [HS.out.1, ← hcs, flatC_append]
        exact List.drop_left' rfl
      have hle : (flatC c1).length ≤ s.size := by
        rw [HS.out.2.2.2, ← hcs, flatC_append, List.length_append]
        omega
      obtain ⟨p, hp⟩ : ∃ p, (flatC c1).length = p := ⟨_, rfl⟩
      rw [hp] at hit hdrop hle
      have hlen : (34 :: c1.flatMap (escP nar)).length ≤ 800000 := by
        have h1 := escs_le nar c1
        have h2 := flat_le c1
        have h3 := HS.out.2.2.1
        rw [List.length_cons]
        omega
      have HP := Lib.hid hp
      have HW := Lib.hid (And.intro hcs (And.intro hbw (And.intro ho hlen)))
      have hNs : N + 1 < wr.heap.size := (Array.getElem?_eq_some_iff.1 hit).1
      have HNS := Lib.hid hNs
      clear hcs hbw ho hlen hp hNs
      cases c2 with
      | nil =>
        have hnp : ¬ p < s.size := by
          intro hlt
          have := congrArg List.length hdrop
          rw [List.length_drop, ← Lib.size_eq] at this
          simp [flatC] at this
          omega
        have hnx : ∀ ty, (Instr.next (.pointer (some ⟨N + 1, 0, none⟩)) true ty).run Tryd.prog wr = _ := fun ty => Lib.run_next_end_at wr (N + 1) s p ty hit hnp
        have HQ : RowKit.Hid (quoP nar cs = (34 :: c1.flatMap (escP nar)) ++ [34]) := Lib.hid (by rw [← HW.out.1, List.append_nil]; rfl)
        obtain ⟨Z, hZ⟩ : ∃ Z, 34 :: c1.flatMap (escP nar) = Z := ⟨_, rfl⟩
        rw [hZ] at HW HQ
        clear hdrop hle hit hnp hZ
        go_wp2_with (at_builtin; refine push8 wr rfl (.tmp 23) (.tmp 24) rfl N (.slice A n k) _ [34] _ 1 rfl rfl HW.out.2.2.1 rfl rfl (by have := HNS.out; omega) (by have := HW.out.2.2.2; omega) ?_)
        intro v' w' h1 h2 _
        obtain ⟨A2, k2, hv2⟩ := h1.slice
        obtain ⟨Q, hQ⟩ : ∃ Q, Z ++ [34] = Q := ⟨_, rfl⟩
        rw [hQ] at h1 hv2 HQ
        obtain ⟨m, hm⟩ : ∃ m, Q.length = m := ⟨_, rfl⟩
        rw [hm] at hv2
        subst hv2
        have hst := str8 w' w'.heap.size A2 m k2 Q (by have := h1.rd.2; exact this)
        clear hQ hm
        have HB2 := Lib.hid (HW.out.2.1.trans ((Own.grown HW.out.2.2.1 h2 (Below.refl N wr) (by have := HNS.out; omega)).mono HBB.out.2))
        clear h1 h2
        go_wp2_with fail
        go_ret2
        exact ⟨by rw [HQ.out]; rfl, HB2.out⟩
      | cons c c2 =>
        have hpl : p < s.size := by
          have := congrArg List.length hdrop
          rw [List.length_drop, ← Lib.size_eq, flatC_cons, List.length_append, encB_length] at this
          have := (widC_pos c).1
          omega
        have hok : okc c := HS.out.2.1 c (by rw [← HW.out.1]; simp)
        have hnx : ∀ ty, (Instr.next (.pointer (some ⟨N + 1, 0, none⟩)) true ty).run Tryd.prog wr = _ := fun ty => Lib.run_next_any_at wr (N + 1) s p ty hit hpl
        rw [← decodeL_drop, hdrop, show decodeL (flatC (c :: c2)) = (c, widC c) by have := flat_ok c2 c [] hok; rwa [List.append_nil] at this] at hnx
        dsimp only at hnx
        have HIX := Lib.hid (Lib.iterAt_heap wr (N + 1) s p (p + widC c) hit)
        have HPO : RowKit.Hid (wr.iterPos (N + 1) = p) := Lib.hid (by simp only [World.iterPos, hit])
        have hox : Own (wr.iterAt (N + 1) s (p + widC c)) N (.slice A n k) (34 :: c1.flatMap (escP nar)) := HW.out.2.2.1.iterAt hit (p + widC c)
        have HAP := Lib.hid (appsign A n k N c nar _ (wr.iterAt (N + 1) s (p + widC c)) hox (by rw [Lib.iterAt_size]; have := HNS.out; omega) HW.out.2.2.2 hok)
        have HBX := Lib.hid (Lib.below_iterAt HW.out.2.1 (k := N + 1) (by have := HBB.out.2; omega) s (p + widC c))
        have HM := Lib.hid (And.intro hdrop hpl)
        clear hdrop hle hit hpl hox hok
        go_wp2_with fail
        refine HAP.out.mono ?_
        rintro e w3 ⟨v', rfl, h1, h2⟩
        obtain ⟨A2, k2, hv2⟩ := h1.slice
        obtain ⟨m, hm⟩ : ∃ m, (34 :: c1.flatMap (escP nar) ++ escP nar c).length = m := ⟨_, rfl⟩
        rw [hm] at hv2
        subst hv2
        have HR := Lib.hid (And.intro h1 h2)
        clear h1 h2 HAP hm
        go_wp2_with fail
        go_roundw
        case rel =>
          refine ⟨c1 ++ [c], c2, A2, _, k2, by rw [← HW.out.1]; simp, rfl, ?_, ?_, HBX.out.trans (HR.out.2.below.mono HBB.out.2)⟩
          · have := HR.out.1
            rw [show (34 :: (c1 ++ [c]).flatMap (escP nar)) = (34 :: c1.flatMap (escP nar)) ++ escP nar c by simp]
            exact this
          · rw [flatC_append, List.length_append, HP.out, show (flatC [c]).length = widC c by simp [flatC, encB_length]]
            exact HR.out.2.keeps _ _ _ HIX.out
        case measure =>
          have hpk := (widC_pos c).1
          have h2 := HR.out.2.keeps _ _ _ HIX.out
          have h3 := HM.out.2
          rw [HPO.out]
          simp only [World.iterPos, h2]
          omega
set_option maxHeartbeats 1000000 in
theorem quote_any (s : ByteArray) (cs : List Nat) (r : List UInt8) (w : World) (h : s.data.toList = flatC cs ++ r) (hc : ∀ c ∈ cs, okc c) (hr : halt r) (hs : s.size ≤ 60000) :
    Calls Tryd.prog 10 #[.string s] w fun e w' => e = quoR false cs r ∧ Below w.heap.size w w' := by
  have HQ := Lib.hid (quoted_any s cs r false w h hc hr hs)
  clear h hc hr hs
  unfold quoR at HQ ⊢
  split at HQ
  all_goals
    rename_i h0
    first | rw [if_pos h0] | rw [if_neg h0]
    go_enter Tryd.func10, Tryd.ntmps10
    go_wp2_with fail
    refine HQ.out.mono ?_
    rintro e w1 ⟨rfl, hb1⟩
    have HB1 := Lib.hid hb1
    clear hb1
    go_wp2_with fail
    go_ret2
    exact ⟨rfl, HB1.out⟩
set_option maxHeartbeats 1000000 in
theorem narrow_any (s : ByteArray) (cs : List Nat) (r : List UInt8) (w : World) (h : s.data.toList = flatC cs ++ r) (hc : ∀ c ∈ cs, okc c) (hr : halt r) (hs : s.size ≤ 60000) :
    Calls Tryd.prog 11 #[.string s] w fun e w' => e = quoR true cs r ∧ Below w.heap.size w w' := by
  have HQ := Lib.hid (quoted_any s cs r true w h hc hr hs)
  clear h hc hr hs
  unfold quoR at HQ ⊢
  split at HQ
  all_goals
    rename_i h0
    first | rw [if_pos h0] | rw [if_neg h0]
    go_enter Tryd.func11, Tryd.ntmps11
    go_wp2_with fail
    refine HQ.out.mono ?_
    rintro e w1 ⟨rfl, hb1⟩
    have HB1 := Lib.hid hb1
    clear hb1
    go_wp2_with fail
    go_ret2
    exact ⟨rfl, HB1.out⟩
end Go.Proofs.YtanmkddmebhdpaaDoor
