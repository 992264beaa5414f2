
/- Contract of New. -/

/- Contracts of Len, Of and Put of a Code, of what a nil Code answers, of crossdocknum's Is, and of the law's fixed fact. -/

/- Contracts of Len, Of and Put of a Code, of what a nil Code answers, of crossdocknum's Is, and of the law's fixed fact. -/
import Derived.Test.YtpnnlhegncbfaaaGreatDoorGroupE
namespace Go.Proofs.YtpnnlhegncbfaaaGreatDoor
set_option maxRecDepth 20000
open Go.RowKit

theorem act51 (a : Act) (h : a.tmps.size = 51) (hd : a.defers = []) : a = ⟨#[a.eval (.tmp 0), a.eval (.tmp 1), a.eval (.tmp 2), a.eval (.tmp 3), a.eval (.tmp 4), a.eval (.tmp 5), a.eval (.tmp 6), a.eval (.tmp 7), a.eval (.tmp 8), a.eval (.tmp 9), a.eval (.tmp 10), a.eval (.tmp 11), a.eval (.tmp 12), a.eval (.tmp 13), a.eval (.tmp 14), a.eval (.tmp 15), a.eval (.tmp 16), a.eval (.tmp 17), a.eval (.tmp 18), a.eval (.tmp 19), a.eval (.tmp 20), a.eval (.tmp 21), a.eval (.tmp 22), a.eval (.tmp 23), a.eval (.tmp 24), a.eval (.tmp 25), a.eval (.tmp 26), a.eval (.tmp 27), a.eval (.tmp 28), a.eval (.tmp 29), a.eval (.tmp 30), a.eval (.tmp 31), a.eval (.tmp 32), a.eval (.tmp 33), a.eval (.tmp 34), a.eval (.tmp 35), a.eval (.tmp 36), a.eval (.tmp 37), a.eval (.tmp 38), a.eval (.tmp 39), a.eval (.tmp 40), a.eval (.tmp 41), a.eval (.tmp 42), a.eval (.tmp 43), a.eval (.tmp 44), a.eval (.tmp 45), a.eval (.tmp 46), a.eval (.tmp 47), a.eval (.tmp 48), a.eval (.tmp 49), a.eval (.tmp 50)], []⟩ := by
  have h1 : a.tmps.toList = (List.range 51).map fun i => a.eval (.tmp i) := by
    apply List.ext_getElem
    · simp [h]
    · intro i h1 h2
      simp [Act.eval, Array.getElem?_eq_getElem (by simpa using h1 : i < a.tmps.size)]
  obtain ⟨tmps, defers⟩ := a
  simp only at h1 hd
  subst hd
  have h2 : tmps = ((List.range 51).map fun i => (Act.mk tmps []).eval (.tmp i)).toArray := by rw [← h1]
  exact congrArg (fun x => Act.mk x []) h2

/-- Which error New has of lengths. -/
def newE (L : List Int) (lone : Bool) : Nat :=
  if 320 < L.length then 3 else if ¬ rng L then 1 else if ¬ okF (cnt (nats L)) then 14
  else if fst (cnt (nats L)) 16 = 65536 ∨ (lone = true ∧ loneF (cnt (nats L))) then 0 else 2
theorem newE_rng {L : List Int} {lone : Bool} (h : newE L lone = 0) : rng L := by
  by_cases h1 : rng L
  · exact h1
  · exfalso
    unfold newE at h
    by_cases h2 : 320 < L.length
    · rw [if_pos h2] at h; omega
    · rw [if_neg h2, if_pos h1] at h; omega
/-- What New leaves. -/
def Made (w : World) (L : List Int) (lone : Bool) (e : Ending) (w' : World) : Prop :=
  Below w.heap.size w w' ∧ (newE L lone ≠ 0 → e = .returned (.tuple #[.pointer none, errV (newE L lone)])) ∧
    (newE L lone = 0 → ∃ g, e = .returned (.tuple #[.pointer (some ⟨g, 0, none⟩), .nilIface]) ∧ HC w' w'.heap.size g (nats L))
/-- The same, and that the code has nothing to do with what was there before. -/
def MadeL (w : World) (L : List Int) (lone : Bool) (e : Ending) (w' : World) : Prop :=
  Made w L lone e w' ∧ ∀ g, e = .returned (.tuple #[.pointer (some ⟨g, 0, none⟩), .nilIface]) → newE L lone = 0 → HL w' w.heap.size w'.heap.size g (nats L)
theorem MadeL.no {w w' : World} {L : List Int} {lone : Bool} {e : Ending} (k : Nat) (hk : newE L lone = k + 1) (hb : Below w.heap.size w w') (he : e = .returned (.tuple #[.pointer none, errV (k + 1)])) : MadeL w L lone e w' :=
  ⟨⟨hb, fun _ => by rw [hk]; exact he, fun h => by omega⟩, fun _ _ h => by omega⟩
theorem is_nats {L : List Int} (h : rng L) : is L = (ia (lenAt (nats L)) L.length).toList := by
  apply List.ext_getElem?
  intro i
  rcases Nat.lt_or_ge i L.length with h1 | h1
  · have hz : (ia (lenAt (nats L)) L.length).toList[i]? = some (.int .i64 (lenAt (nats L) i : Int)) := by rw [Array.getElem?_toList, ia_at _ h1]
    rw [hz]
    have h2 := h L[i] (List.getElem_mem h1)
    have h3 : lenAt (nats L) i = L[i].toNat := by
      unfold lenAt nats
      rw [List.getD_eq_getElem?_getD, List.getElem?_map, List.getElem?_eq_getElem h1]; rfl
    rw [h3]
    simp only [is, List.getElem?_map, List.getElem?_eq_getElem h1, Option.map_some]
    congr 2
    omega
  · rw [List.getElem?_eq_none (by rw [is_length]; exact h1), List.getElem?_eq_none (by rw [Array.length_toList, ia_size]; exact h1)]
theorem low_nats {L : List Int} (h : rng L) : Low (nats L) := fun x hx => by
  obtain ⟨y, hy, rfl⟩ := List.mem_map.1 hx
  have := h y hy
  omega
theorem nats_length (L : List Int) : (nats L).length = L.length := by simp [nats]

/-- What is there ahead of the call of number, and behind it. -/
structure NewM (w wk : World) (g : Nat) (L : List Int) (lone : Bool) : Prop where
  num : Calls Tryz.prog 93 #[.pointer (some ⟨g, 0, none⟩)] wk fun e w' => e = .returned (.tuple #[]) ∧ (HC w' w'.heap.size g (nats L) ∧ HL w' w.heap.size w'.heap.size g (nats L)) ∧ wk.grownBy w' (some g)
  done : ∀ {w'}, (HC w' w'.heap.size g (nats L) ∧ HL w' w.heap.size w'.heap.size g (nats L)) → wk.grownBy w' (some g) → MadeL w L lone (.returned (.tuple #[.pointer (some ⟨g, 0, none⟩), .nilIface])) w'
theorem new_mem {w wk w8 : World} {L : List Int} {lone : Bool} {cf ff : Nat → Nat} {A1 : Option Addr} {n c1 : Nat} (hz : newE L lone = 0) (hcf : cnt (nats L) = cf) (hff : fst cf = ff) (hrng : rng L) (hok : okF cf) (hb : Below w.heap.size w wk) (hl : L.length = n) (hn : n ≤ 320)
    (hov : OwnI w8 wk.heap.size (.slice A1 L.length c1) L) (hgv : wk.grownBy w8 none) :
    NewM w (w8.alloc (.cells (hcells (.slice A1 L.length c1) (.slice none 0 0) (.slice none 0 0) cf ff) 152)) w8.heap.size L lone := by
  subst hcf hff
  have hb8 : Below w.heap.size w w8 := hb.grown hgv hb.size (fun _ h => by cases h)
  have hb9 : Below w.heap.size w (w8.alloc (.cells (hcells (.slice A1 L.length c1) (.slice none 0 0) (.slice none 0 0) (cnt (nats L)) (fst (cnt (nats L)))) 152)) := hb8.alloc hb8.size _
  refine ⟨?_, fun {w'} hc hg => ⟨⟨hb9.grown hg hb9.size (fun k h => by injection h with h; have := hb8.size; omega), fun h => absurd hz h, fun _ => ⟨_, rfl, hc.1⟩⟩, fun g' hg' _ => by
    injection hg' with hg'; injection hg' with hg'; injection hg' with hg'; injection hg' with hg' _; injection hg' with hg'; injection hg' with hg'; injection hg' with hg'
    subst hg'
    exact hc.2⟩⟩
  have hlo : ∀ b o, A1 = some ⟨b, o, none⟩ → w.heap.size ≤ b := fun b o hA1 => by
    subst hA1
    have := (World.ownsRow.lt hov b (by rcases hov.2 with ⟨h, _⟩ | ⟨g, cap, cur, h, _⟩; cases h; injection h with h; injection h with h; injection h with h1 h2; subst h1 h2; rfl)).1
    have := hb.size
    omega
  refine (number_any w8.heap.size A1 L.length c1 (nats L) _ (Row.new w8 _ _) ?_ (nats_length L) (by omega) (low_nats hrng) hok).mono (fun e w' h => ⟨h.1, ⟨h.2.1.1, h.2.1.2 w.heap.size hb8.size hlo⟩, h.2.2⟩)
  have hrd := hov.rd.2
  rw [is_nats hrng] at hrd
  refine ⟨hrd.1, fun h0 => ?_⟩
  obtain ⟨b, o, rfl, hlt, hc⟩ := hrd.2 h0
  exact ⟨b, o, rfl, by omega, by simp; omega, fun j u hu => ((Below.refl _ w8).alloc (Nat.le_refl _) _ |>.cell (p := ⟨b, o + j, none⟩) hlt).trans (hc j u hu)⟩

set_option maxHeartbeats 2000000 in
set_option maxRecDepth 10000 in
theorem new_full (A : Option Addr) (n c : Nat) (L : List Int) (lone : Bool) (w : World) (hr : Rd w w.heap.size A n (is L)) (hA : A = none → c = 0) (hn : n ≤ 1000) :
    Calls Tryz.prog 75 #[.slice A n c, .bool lone] w (MadeL w L lone) := by
  have hl : L.length = n := by have := hr.1; rwa [is_length] at this
  have HR := Lib.hid hr
  have HA := Lib.hid hA
  have HL := Lib.hid hl
  have HN := Lib.hid hn
  clear hr hA
  by_cases hlong : 320 < n
  · have HE : RowKit.Hid (newE L lone = 2 + 1) := Lib.hid (by unfold newE; rw [if_pos (by rw [hl]; exact hlong)])
    have hd : decide ((320 : Int) < (n : Int)) = true := decide_eq_true (by omega)
    clear hl hlong
    go_enter Tryz.func75, Tryz.ntmps75
    go_wp2_with fail
    go_ret2
    exact MadeL.no 2 HE.out (Below.refl _ _) rfl
  have hd : decide ((320 : Int) < (n : Int)) = false := decide_eq_false (by omega)
  have HLO : RowKit.Hid (¬ 320 < L.length) := Lib.hid (by rw [hl]; exact hlong)
  have hn320 : n ≤ 320 := by omega
  clear hl hlong hn
  go_enter Tryz.func75, Tryz.ntmps75
  go_wp2_with fail
  refine (counts_any A n c L w HR.out HN.out).mono ?_
  rintro e w1 ⟨rfl, hb1⟩
  have HB1 := Lib.hid hb1
  clear hb1
  go_wp2_with (with_reducible refine halt_alloc 141 ?_)
  refine Lib.hid ?_
  refine alloc_row rfl 141 rfl _ 16 info114 ?_
  intro w2 r2 g2 s2
  refine store_row rfl 141 _ _ rfl w1.heap.size (ia (cF L) 16) rfl rfl 141 _ r2 16 size114 (ia_size _ _) (ia_size _ _) (ia_one _ _) ?_
  intro w3 r3 g3 s3
  have HB3 := Lib.hid ((HB1.out.grown g2 HB1.out.size (fun _ h => by cases h)).grown g3 (by have := HB1.out.size; omega) (fun k h => by injection h with h; have := HB1.out.size; omega))
  have R3 := Lib.hid r3
  have HP := Lib.hid HB1.out.size
  have HP3 : RowKit.Hid (w1.heap.size < w3.heap.size) := Lib.hid (by omega)
  clear r2 g2 s2 r3 g3 s3 HB1
  generalize w1.heap.size = p at R3 HP HP3 ⊢
  by_cases hrng0 : ¬ rng L
  · have hrng := hrng0
    have e1 : cE L = 1 := by unfold cE; rw [if_neg hrng]
    rw [e1, show errV 1 = .iface 39 (.int .i64 1) from rfl]
    have HE : RowKit.Hid (newE L lone = 0 + 1) := Lib.hid (by unfold newE; rw [if_neg HLO.out, if_pos hrng])
    clear e1 hrng hrng0
    go_wp2_with fail
    go_ret2
    exact MadeL.no 0 HE.out HB3.out rfl
  have hrng : rng L := Decidable.not_not.1 hrng0
  have e1 : cE L = 0 := by unfold cE; rw [if_pos hrng]
  have e2 : cF L = cnt (nats L) := by unfold cF; rw [if_pos hrng]
  rw [e1, show errV 0 = .nilIface from rfl]
  rw [e2] at R3 ⊢
  have HRNG := Lib.hid hrng
  clear e1 e2 hrng hrng0
  obtain ⟨cf, HCF⟩ : ∃ cf, RowKit.Hid (cnt (nats L) = cf) := ⟨_, Lib.hid rfl⟩
  rw [HCF.out] at R3 ⊢
  have HCB : RowKit.Hid (∀ k, cf k ≤ 1000) := Lib.hid (fun k => by rw [← HCF.out]; exact Nat.le_trans (cnt_le _ _) (by rw [nats_length, HL.out]; exact HN.out))
  go_wp2_with (with_reducible refine halt_load 141 ?_)
  refine Lib.hid ?_
  refine load_row rfl 141 _ rfl p rfl 141 _ _ R3.out Tryz.underlying141 rfl 16 size114 (ia_size _ _) ?_
  intro _
  go_wp2_with fail
  refine (firsts_any cf w3 HCB.out).mono ?_
  rintro e w4 ⟨rfl, hb4⟩
  have HB4 := Lib.hid (HB3.out.trans (hb4.mono HB3.out.size))
  have R4 := Lib.hid (R3.out.below hb4 HP3.out)
  have HP4 : RowKit.Hid (p < w4.heap.size) := Lib.hid (Nat.lt_of_lt_of_le HP3.out hb4.size)
  clear hb4 HB3 R3 HP3
  go_wp2_with (with_reducible refine halt_alloc 145 ?_)
  refine Lib.hid ?_
  refine alloc_row rfl 145 rfl _ 17 info116 ?_
  intro w5 r5 g5 s5
  refine store_row rfl 145 _ _ rfl w4.heap.size (ia (fF cf) 17) rfl rfl 145 _ r5 17 size116 (ia_size _ _) (ia_size _ _) (ia_one _ _) ?_
  intro w6 r6 g6 s6
  have HB6 := Lib.hid ((HB4.out.grown g5 HB4.out.size (fun _ h => by cases h)).grown g6 (by have := HB4.out.size; omega) (fun k h => by injection h with h; have := HB4.out.size; omega))
  have R6 := Lib.hid r6
  have RP6 := Lib.hid ((R4.out.grown g5 (by simp)).grown g6 (by have := HP4.out; simp; omega))
  have HQ6 : RowKit.Hid (w.heap.size ≤ w4.heap.size ∧ w4.heap.size < w6.heap.size ∧ p < w6.heap.size) := Lib.hid ⟨HB4.out.size, by omega, by have := HP4.out; omega⟩
  clear r5 g5 s5 r6 g6 s6 HB4 R4 HP4
  generalize w4.heap.size = q at R6 HQ6 ⊢
  by_cases hok0 : ¬ okF cf
  · have hok := hok0
    have e1 : fE cf = 14 := by unfold fE; rw [if_neg hok]
    rw [e1, show errV 14 = .iface 39 (.int .i64 14) from rfl]
    have HE : RowKit.Hid (newE L lone = 13 + 1) := Lib.hid (by unfold newE; rw [if_neg HLO.out, if_neg (not_not_intro HRNG.out), if_pos (by rw [HCF.out]; exact hok)])
    clear e1 hok hok0
    go_wp2_with fail
    go_ret2
    exact MadeL.no 13 HE.out HB6.out rfl
  have hok : okF cf := Decidable.not_not.1 hok0
  have e1 : fE cf = 0 := by unfold fE; rw [if_pos hok]
  have e2 : fF cf = fst cf := by unfold fF; rw [if_pos hok]
  rw [e1, show errV 0 = .nilIface from rfl]
  rw [e2] at R6 ⊢
  have HOK := Lib.hid hok
  clear e1 e2 hok hok0
  have HNE : RowKit.Hid (newE L lone = if fst cf 16 = 65536 ∨ (lone = true ∧ loneF cf) then 0 else 2) := Lib.hid (by unfold newE; rw [if_neg HLO.out, if_neg (not_not_intro HRNG.out), HCF.out, if_neg (not_not_intro HOK.out)])
  obtain ⟨ff, HFF⟩ : ∃ ff, RowKit.Hid (fst cf = ff) := ⟨_, Lib.hid rfl⟩
  rw [HFF.out] at R6 HNE ⊢
  go_wp2_with (with_reducible refine halt_load 145 ?_)
  refine Lib.hid ?_
  refine load_row rfl 145 _ rfl q rfl 145 _ _ R6.out Tryz.underlying145 rfl 17 size116 (ia_size _ _) ?_
  intro _
  go_wp2_with fail
  refine (full_any ff w6).mono ?_
  rintro e w7 ⟨rfl, hb7⟩
  have HB7 := Lib.hid (HB6.out.trans (hb7.mono HB6.out.size))
  have R7 := Lib.hid (R6.out.below hb7 HQ6.out.2.1)
  have RP7 := Lib.hid (RP6.out.below hb7 HQ6.out.2.2)
  have HS7 := Lib.hid hb7.size
  clear hb7 HB6 R6 RP6
  have HNE2 : RowKit.Hid (newE L lone = if ff 16 = 65536 ∨ (lone = true ∧ loneF cf) then 0 else 2) := HNE
  clear HNE
  by_cases hfull : ff 16 = 65536
  · have e1 : decide (ff 16 = 65536) = true := decide_eq_true hfull
    rw [e1]
    have HZ : RowKit.Hid (newE L lone = 0) := Lib.hid (by rw [HNE2.out, if_pos (.inl hfull)])
    clear e1 hfull HNE2
    go_upto_region 11 with fail
    refine region11 _ w7 _ A n c p q L cf ff rfl rfl rfl rfl (HR.out.next HB7.out) HA.out (by omega) RP7.out R7.out (fun _ _ _ _ _ h => h) ?_
    intro a' w8 A1 c1 hs' hd' f9 hov hgv
    have HMM := Lib.hid (new_mem HZ.out HCF.out HFF.out HRNG.out HOK.out HB7.out HL.out hn320 hov hgv)
    clear hov hgv
    generalize hW : w8.alloc _ = w9 at HMM ⊢
    clear hW
    generalize w8.heap.size = g at f9 HMM
    rw [act51 a' hs' hd', f9]
    clear hs' hd' f9
    generalize a'.eval (.tmp 0) = u0
    generalize a'.eval (.tmp 1) = u1
    generalize a'.eval (.tmp 2) = u2
    generalize a'.eval (.tmp 3) = u3
    generalize a'.eval (.tmp 4) = u4
    generalize a'.eval (.tmp 5) = u5
    generalize a'.eval (.tmp 6) = u6
    generalize a'.eval (.tmp 7) = u7
    generalize a'.eval (.tmp 8) = u8
    generalize a'.eval (.tmp 10) = u10
    generalize a'.eval (.tmp 11) = u11
    generalize a'.eval (.tmp 12) = u12
    generalize a'.eval (.tmp 13) = u13
    generalize a'.eval (.tmp 14) = u14
    generalize a'.eval (.tmp 15) = u15
    generalize a'.eval (.tmp 16) = u16
    generalize a'.eval (.tmp 17) = u17
    generalize a'.eval (.tmp 18) = u18
    generalize a'.eval (.tmp 19) = u19
    generalize a'.eval (.tmp 20) = u20
    generalize a'.eval (.tmp 21) = u21
    generalize a'.eval (.tmp 22) = u22
    generalize a'.eval (.tmp 23) = u23
    generalize a'.eval (.tmp 24) = u24
    generalize a'.eval (.tmp 25) = u25
    generalize a'.eval (.tmp 26) = u26
    generalize a'.eval (.tmp 27) = u27
    generalize a'.eval (.tmp 28) = u28
    generalize a'.eval (.tmp 29) = u29
    generalize a'.eval (.tmp 30) = u30
    generalize a'.eval (.tmp 31) = u31
    generalize a'.eval (.tmp 32) = u32
    generalize a'.eval (.tmp 33) = u33
    generalize a'.eval (.tmp 34) = u34
    generalize a'.eval (.tmp 35) = u35
    generalize a'.eval (.tmp 36) = u36
    generalize a'.eval (.tmp 37) = u37
    generalize a'.eval (.tmp 38) = u38
    generalize a'.eval (.tmp 39) = u39
    generalize a'.eval (.tmp 40) = u40
    generalize a'.eval (.tmp 41) = u41
    generalize a'.eval (.tmp 42) = u42
    generalize a'.eval (.tmp 43) = u43
    generalize a'.eval (.tmp 44) = u44
    generalize a'.eval (.tmp 45) = u45
    generalize a'.eval (.tmp 46) = u46
    generalize a'.eval (.tmp 47) = u47
    generalize a'.eval (.tmp 48) = u48
    generalize a'.eval (.tmp 49) = u49
    generalize a'.eval (.tmp 50) = u50
    go_wp2_with fail
    refine (HMM.out.num).mono ?_
    rintro e wf ⟨rfl, hc, hg⟩
    have HF := Lib.hid (HMM.out.done hc hg)
    clear hc hg
    go_wp2_with fail
    go_ret2
    exact HF.out
  · have e1 : decide (ff 16 = 65536) = false := decide_eq_false hfull
    rw [e1]
    cases lone with
    | false =>
      have HE : RowKit.Hid (newE L false = 1 + 1) := Lib.hid (by rw [HNE2.out, if_neg (by simp [hfull])])
      clear e1 hfull HNE2
      go_wp2_with fail
      go_ret2
      exact MadeL.no 1 HE.out HB7.out rfl
    | true =>
      go_wp2_with (with_reducible refine halt_load 141 ?_)
      refine Lib.hid ?_
      refine load_row_w (by kernel_rfl) 141 _ rfl p rfl 141 _ _ RP7.out Tryz.underlying141 rfl 16 size114 (ia_size _ _) ?_
      intro _
      go_wp2_with fail
      refine (lone_any cf w7 HCB.out).mono ?_
      rintro e w8 ⟨rfl, hb8⟩
      have HB8 := Lib.hid (HB7.out.trans (hb8.mono HB7.out.size))
      have R8 := Lib.hid (R7.out.below hb8 (Nat.lt_of_lt_of_le HQ6.out.2.1 HS7.out))
      have RP8 := Lib.hid (RP7.out.below hb8 (Nat.lt_of_lt_of_le HQ6.out.2.2 HS7.out))
      clear hb8 HB7 R7 RP7
      by_cases hlo : loneF cf
      · have e2 : decide (loneF cf) = true := decide_eq_true hlo
        rw [e2]
        have HZ : RowKit.Hid (newE L true = 0) := Lib.hid (by rw [HNE2.out, if_pos (by simp [hlo])])
        clear e1 e2 hfull hlo HNE2
        go_upto_region 11 with fail
        refine region11 _ w8 _ A n c p q L cf ff rfl rfl rfl rfl (HR.out.next HB8.out) HA.out (by omega) RP8.out R8.out (fun _ _ _ _ _ h => h) ?_
        intro a' w9 A1 c1 hs' hd' f9 hov hgv
        have HMM := Lib.hid (new_mem HZ.out HCF.out HFF.out HRNG.out HOK.out HB8.out HL.out hn320 hov hgv)
        clear hov hgv
        generalize hW : w9.alloc _ = w10 at HMM ⊢
        clear hW
        generalize w9.heap.size = g at f9 HMM
        rw [act51 a' hs' hd', f9]
        clear hs' hd' f9
        generalize a'.eval (.tmp 0) = u0
        generalize a'.eval (.tmp 1) = u1
        generalize a'.eval (.tmp 2) = u2
        generalize a'.eval (.tmp 3) = u3
        generalize a'.eval (.tmp 4) = u4
        generalize a'.eval (.tmp 5) = u5
        generalize a'.eval (.tmp 6) = u6
        generalize a'.eval (.tmp 7) = u7
        generalize a'.eval (.tmp 8) = u8
        generalize a'.eval (.tmp 10) = u10
        generalize a'.eval (.tmp 11) = u11
        generalize a'.eval (.tmp 12) = u12
        generalize a'.eval (.tmp 13) = u13
        generalize a'.eval (.tmp 14) = u14
        generalize a'.eval (.tmp 15) = u15
        generalize a'.eval (.tmp 16) = u16
        generalize a'.eval (.tmp 17) = u17
        generalize a'.eval (.tmp 18) = u18
        generalize a'.eval (.tmp 19) = u19
        generalize a'.eval (.tmp 20) = u20
        generalize a'.eval (.tmp 21) = u21
        generalize a'.eval (.tmp 22) = u22
        generalize a'.eval (.tmp 23) = u23
        generalize a'.eval (.tmp 24) = u24
        generalize a'.eval (.tmp 25) = u25
        generalize a'.eval (.tmp 26) = u26
        generalize a'.eval (.tmp 27) = u27
        generalize a'.eval (.tmp 28) = u28
        generalize a'.eval (.tmp 29) = u29
        generalize a'.eval (.tmp 30) = u30
        generalize a'.eval (.tmp 31) = u31
        generalize a'.eval (.tmp 32) = u32
        generalize a'.eval (.tmp 33) = u33
        generalize a'.eval (.tmp 34) = u34
        generalize a'.eval (.tmp 35) = u35
        generalize a'.eval (.tmp 36) = u36
        generalize a'.eval (.tmp 37) = u37
        generalize a'.eval (.tmp 38) = u38
        generalize a'.eval (.tmp 39) = u39
        generalize a'.eval (.tmp 40) = u40
        generalize a'.eval (.tmp 41) = u41
        generalize a'.eval (.tmp 42) = u42
        generalize a'.eval (.tmp 43) = u43
        generalize a'.eval (.tmp 44) = u44
        generalize a'.eval (.tmp 45) = u45
        generalize a'.eval (.tmp 46) = u46
        generalize a'.eval (.tmp 47) = u47
        generalize a'.eval (.tmp 48) = u48
        generalize a'.eval (.tmp 49) = u49
        generalize a'.eval (.tmp 50) = u50
        go_wp2_with fail
        refine (HMM.out.num).mono ?_
        rintro e wf ⟨rfl, hc, hg⟩
        have HF := Lib.hid (HMM.out.done hc hg)
        clear hc hg
        go_wp2_with fail
        go_ret2
        exact HF.out
      · have e2 : decide (loneF cf) = false := decide_eq_false hlo
        rw [e2]
        have HE : RowKit.Hid (newE L true = 1 + 1) := Lib.hid (by rw [HNE2.out, if_neg (by simp [hfull, hlo])])
        clear e1 e2 hfull hlo HNE2
        go_wp2_with fail
        go_ret2
        exact MadeL.no 1 HE.out HB8.out rfl
theorem new_any (A : Option Addr) (n c : Nat) (L : List Int) (lone : Bool) (w : World) (hr : Rd w w.heap.size A n (is L)) (hA : A = none → c = 0) (hn : n ≤ 1000) :
    Calls Tryz.prog 75 #[.slice A n c, .bool lone] w (Made w L lone) := (new_full A n c L lone w hr hA hn).mono fun _ _ h => h.1
end Go.Proofs.YtpnnlhegncbfaaaGreatDoor
namespace Go.Proofs.YtpnnlhegncbfaaaGreatDoor
set_option maxRecDepth 20000
open Go.RowKit

/-- A sign's length and code, of any number. -/
def lenI (l : List Nat) (s : Int) : Nat := if s < 0 then 0 else lenAt l s.toNat
def codeI (l : List Nat) (s : Int) : Nat := if s < 0 then 0 else codeAt l s.toNat
theorem lenI_nat (l : List Nat) (s : Nat) : lenI l (s : Int) = lenAt l s := by unfold lenI; rw [if_neg (by omega)]; rfl
theorem codeI_nat (l : List Nat) (s : Nat) : codeI l (s : Int) = codeAt l s := by unfold codeI; rw [if_neg (by omega)]; rfl
theorem HC.cell0 {w : World} {B g : Nat} {l : List Nat} (h : HC w B g l) : ∃ A c, w.cell? ⟨g, 0, none⟩ = some (.slice A l.length c) := by
  obtain ⟨Al, cl, Ac, cc, As, cs, sg, h1, _⟩ := h.mem
  exact ⟨Al, cl, by rw [h1.cell, hcells_0]⟩
theorem HC.grown {w w' : World} {B g : Nat} {l : List Nat} (h : HC w B g l) (hB : B ≤ w.heap.size) {r : Option Nat} (hg : w.grownBy w' r) (hr : ∀ k, r = some k → B ≤ k) : HC w' B g l :=
  h.below ⟨hg.os, hg.tape, hg.output, hg.size, fun k hk => hg.block k (by omega) (fun e => by have := hr k e.symm; omega)⟩

set_option maxHeartbeats 400000 in
set_option maxRecDepth 10000 in
theorem len_any (B g : Nat) (l : List Nat) (w : World) (hc : HC w B g l) : Calls Tryz.prog 105 #[.pointer (some ⟨g, 0, none⟩)] w fun e w' => e = .returned (.int .i64 (l.length : Int)) ∧ w' = w := by
  obtain ⟨A, c, h0⟩ := hc.cell0
  clear hc
  go_enter Tryz.func105, Tryz.ntmps105
  go_wp2_with fail
  go_ret
  exact ⟨rfl, rfl⟩
set_option maxHeartbeats 400000 in
set_option maxRecDepth 10000 in
theorem of_any (B g : Nat) (l : List Nat) (s : Int) (w : World) (hc : HC w B g l) :
    Calls Tryz.prog 96 #[.pointer (some ⟨g, 0, none⟩), .int .i64 s] w fun e w' => e = .returned (.tuple #[.int .i64 (codeI l s : Int), .int .i64 (lenI l s : Int)]) ∧ ∃ m, w' = w.drewN m := by
  have HC := Lib.hid hc
  by_cases h0 : s < 0
  · have hd : decide (s < 0) = true := decide_eq_true h0
    have HZ : RowKit.Hid (codeI l s = 0 ∧ lenI l s = 0) := Lib.hid (by unfold codeI lenI; rw [if_pos h0, if_pos h0]; exact ⟨rfl, rfl⟩)
    clear hc h0
    go_enter Tryz.func96, Tryz.ntmps96
    go_wp2_with fail
    go_ret2
    exact ⟨by rw [HZ.out.1, HZ.out.2]; rfl, 0, rfl⟩
  · have hd : decide (s < 0) = false := decide_eq_false h0
    obtain ⟨k, rfl⟩ : ∃ k : Nat, s = (k : Int) := ⟨s.toNat, by omega⟩
    rw [lenI_nat, codeI_nat]
    by_cases hk : k < l.length
    · have hd2 : decide ((l.length : Int) ≤ (k : Int)) = false := decide_eq_false (by omega)
      obtain ⟨Al, cl, Ac, cc, As, cs, sg, h1, h2, h3, _⟩ := hc.mem
      have c0 := h1.cell 0
      rw [hcells_0] at c0
      have c1 := h1.cell 1
      rw [hcells_1] at c1
      obtain ⟨b, o, rfl, _, e1⟩ := h2.ia hk
      obtain ⟨b', o', rfl, _, e2⟩ := h3.ia hk
      have hlen := HC.out.len
      generalize codeAt l k = y1 at e2 ⊢
      generalize lenAt l k = y2 at e1 ⊢
      clear hc h1 h2 h3 h0
      go_enter Tryz.func96, Tryz.ntmps96
      go_wp2_with fail
      refine (len_any B g l w HC.out).mono ?_
      rintro e w1 ⟨rfl, rfl⟩
      generalize l.length = n at *
      go_wp2_with fail
      go_region
      go_wp2_with fail
      go_ret2
      exact ⟨rfl, 1, rfl⟩
    · have hd2 : decide ((l.length : Int) ≤ (k : Int)) = true := decide_eq_true (by omega)
      have e2 := lenAt_ge (show l.length ≤ k by omega)
      rw [code_ne_zero e2, e2]
      have hk2 : l.length ≤ k := by omega
      clear hc h0 hk e2
      go_enter Tryz.func96, Tryz.ntmps96
      go_wp2_with fail
      refine (len_any B g l w HC.out).mono ?_
      rintro e w1 ⟨rfl, rfl⟩
      go_wp2_with fail
      go_ret2
      exact ⟨rfl, 0, rfl⟩

end Go.Proofs.YtpnnlhegncbfaaaGreatDoor
namespace Go.Proofs.YtpnnlhegncbfaaaGreatDoor
set_option maxRecDepth 20000
open Go.RowKit

set_option maxHeartbeats 400000 in
theorem htake_nil (v : Value) (w : World) : Calls Tryz.prog 125 #[.pointer none, v] w fun e w' => e = .returned (.tuple #[.int .i64 0, errV 4]) ∧ w' = w := by
  go_enter Tryz.func125, Tryz.ntmps125
  go_wp2_with fail
  go_ret2
  exact ⟨rfl, rfl⟩
set_option maxHeartbeats 400000 in
theorem htake_none (g : Addr) (w : World) : Calls Tryz.prog 125 #[.pointer (some g), .pointer none] w fun e w' => e = .returned (.tuple #[.int .i64 0, errV 4]) ∧ w' = w := by
  go_enter Tryz.func125, Tryz.ntmps125
  go_wp2_with fail
  go_ret2
  exact ⟨rfl, rfl⟩
end Go.Proofs.YtpnnlhegncbfaaaGreatDoor
