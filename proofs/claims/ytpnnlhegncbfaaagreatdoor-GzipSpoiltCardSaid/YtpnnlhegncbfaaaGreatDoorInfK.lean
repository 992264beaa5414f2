/- Packed bytes: what is found wrong stays wrong, whatever stands behind, where it isn't that bits lack; and how often is often enough. No program is named here. -/
import Derived.Test.YtpnnlhegncbfaaaGreatDoorGroupH
namespace Go.Proofs.YtpnnlhegncbfaaaGreatDoor

/-- What is found wrong, and isn't that bits lack, is found wrong with more bits, too. -/
structure Firm {α : Type} (f : X α) : Prop where
  all : ∀ L M lim s e, Bits L → Bits (L ++ M) → f L lim s = .error e → e ≠ 10 → s.pos ≤ L.length → s.out.length ≤ lim → f (L ++ M) lim s = .error e
theorem firm_pure {α : Type} (a : α) : Firm (pureX a) := ⟨fun L M lim s e _ _ he => by cases he⟩
theorem firm_fail {α : Type} (e : Nat) : Firm (failX e : X α) := ⟨fun _ _ _ _ _ _ _ he _ _ _ => he⟩
theorem app_take {L M : List UInt8} {p : Nat} (h : p ≤ L.length) : (L ++ M).take p = L.take p := List.take_append_of_le_length h
theorem firm_bind {α β : Type} {k g : Nat} {f : X α} {h : α → X β} (hf : Good k g f) (hf' : Firm f) (hh : ∀ a, Firm (h a)) : Firm (bindX f h) := ⟨fun L M lim s e hb hb' he hn h1 h2 => by
  unfold bindX at he ⊢
  cases hfs : f L lim s with
  | error x =>
    rw [hfs] at he
    injection he with he
    subst he
    rw [hf'.all L M lim s x hb hb' hfs hn h1 h2]
  | ok r =>
    obtain ⟨a, s1⟩ := r
    rw [hfs] at he
    obtain ⟨a1, a2, a3, a4, a5, a6⟩ := hf.all L lim s a s1 hb hfs h1 h2
    rw [a6 (L ++ M) lim hb' (app_take a2) a4]
    exact (hh a).all L M lim s1 e hb hb' he hn a2 a4⟩
theorem firm_num (n : Nat) : Firm (numX n) := ⟨fun L M lim s e _ _ he hn _ _ => by
  unfold numX at he
  split at he
  · injection he with he; exact absurd he.symm hn
  · cases he⟩
theorem firm_sign {ls : List Nat} (hl : Low ls) : Firm (signX ls) := ⟨fun L M lim s e hb hb' he hn h1 _ => by
  unfold signX at he
  by_cases hE : tkE ls (L.drop s.pos) ≠ 0
  · rw [if_pos hE] at he
    injection he with he
    have hd : (L ++ M).drop s.pos = L.drop s.pos ++ M := by rw [List.drop_append_of_le_length h1]
    have hB' : Bin (L.drop s.pos ++ M) := by rw [← hd]; exact hb'.1.drop _
    have hB : Bin (L.drop s.pos) := hb.1.drop _
    generalize L.drop s.pos = D at he hE hd hB hB'
    have h2 : tkE ls D = 2 ∧ tkO ls D = none ∧ ¬ tailP ls D := by
      unfold tkE at he ⊢
      cases hO : tkO ls D with
      | some x => unfold tkE at hE; rw [hO] at hE; exact absurd rfl hE
      | none =>
        rw [hO] at he
        simp only at he ⊢
        by_cases ht : tailP ls D
        · rw [if_pos ht] at he; exact absurd he.symm hn
        · rw [if_neg ht]; exact ⟨rfl, trivial, ht⟩
    have hm := tkO_none hB h2.2.1
    have hnt : ¬ ∃ x, lenAt ls x ≠ 0 ∧ D.length < lenAt ls x ∧ codeAt ls x / 2 ^ (lenAt ls x - D.length) = hiB D := fun hx => h2.2.2 ((tail_iff hl hm).2 hx)
    have hpre : hiB ((D ++ M).take D.length) = hiB D := by rw [List.take_left' rfl]
    have hO' : tkO ls (D ++ M) = none := by
      cases hO : tkO ls (D ++ M) with
      | none => rfl
      | some x =>
        exfalso
        have hx : hitP ls (D ++ M) x := by
          unfold tkO at hO
          have := List.find?_some hO
          simpa using this
        by_cases hlen : lenAt ls x ≤ D.length
        · have hit : hitP ls D x := ⟨hx.1, hlen, by rw [← app_take (M := M) hlen]; exact hx.2.2⟩
          rw [tkO_hit hB hit] at h2
          exact absurd h2.2.1 (by simp)
        · refine hnt ⟨x, hx.1, by omega, ?_⟩
          rw [← hx.2.2, ← hpre]
          exact (hiB_take hB' (by omega) hx.2.1).symm
    have hm' := tkO_none hB' hO'
    have ht' : ¬ tailP ls (D ++ M) := fun ht => by
      obtain ⟨x, x1, x2, x3⟩ := (tail_iff hl hm').1 ht
      rw [List.length_append] at x2 x3
      refine hnt ⟨x, x1, by omega, ?_⟩
      rw [← hpre, hiB_take hB' (j := D.length) (k := (D ++ M).length) (by rw [List.length_append]; omega) (Nat.le_refl _), List.take_length, ← x3, Nat.div_div_eq_div_mul, ← Nat.pow_add, List.length_append]
      congr 2
      omega
    have e2 : tkE ls (D ++ M) = 2 := by unfold tkE; rw [hO']; simp only; rw [if_neg ht']
    unfold signX
    rw [hd, e2, if_pos (by decide), ← he, h2.1]
  · rw [if_neg hE] at he; cases he⟩
theorem firm_step : Firm stepX := ⟨fun L M lim s e _ _ he => by cases he⟩
theorem firm_align : Firm alignX := ⟨fun L M lim s e _ _ he => by cases he⟩
theorem firm_store (n : Nat) : Firm (storeX n) := ⟨fun L M lim s e _ _ he hn _ _ => by
  unfold storeX at he ⊢
  by_cases c1 : lim < s.out.length + n
  · rw [if_pos c1] at he ⊢; exact he
  · rw [if_neg c1] at he
    split at he
    · injection he with he; exact absurd he.symm hn
    · cases he⟩
theorem firm_put (x : Nat) : Firm (putX x) := ⟨fun _ _ _ _ _ _ _ he _ _ _ => he⟩
theorem firm_copy (n far : Nat) : Firm (copyX n far) := ⟨fun _ _ _ _ _ _ _ he _ _ _ => he⟩
theorem firm_stored : Firm storedX :=
  firm_bind good_align firm_align fun _ => firm_bind (good_num 16) (firm_num 16) fun n => firm_bind (good_num 16) (firm_num 16) fun t => by split; exact firm_fail 2; exact firm_store n
theorem firm_help (k i : Nat) (h : List Nat) : Firm (helpX k i h) := by
  induction k generalizing i h with
  | zero => exact firm_pure h
  | succ k ih => exact firm_bind good_step firm_step fun _ => firm_bind (good_num 3) (firm_num 3) fun x => ih _ _
theorem firm_run (s : Nat) (l : List Nat) : Firm (runX s l) := by
  unfold runX
  split
  · split
    · exact firm_fail 2
    · exact firm_bind (good_num 2) (firm_num 2) fun x => firm_pure _
  · split
    · exact firm_bind (good_num 3) (firm_num 3) fun x => firm_pure _
    · split
      · exact firm_bind (good_num 7) (firm_num 7) fun x => firm_pure _
      · exact firm_pure _
theorem firm_lens {h : List Nat} (hl : Low h) (total k : Nat) (l : List Nat) : Firm (lensX h total k l) := by
  induction k generalizing l with
  | zero => exact firm_fail 99
  | succ k ih =>
    unfold lensX
    split
    · exact firm_pure l
    · exact firm_bind good_step firm_step fun _ => firm_bind (good_sign h) (firm_sign hl) fun s => firm_bind (good_run s l) (firm_run s l) fun r => by split; exact firm_fail 2; exact ih _
/-- What an answer has. -/
def Has {α : Type} (f : X α) (P : α → Prop) : Prop := ∀ L lim s a s', Bits L → f L lim s = .ok (a, s') → s.pos ≤ L.length → s.out.length ≤ lim → P a
theorem firm_bind' {α β : Type} {k g : Nat} {f : X α} {h : α → X β} {P : α → Prop} (hf : Good k g f) (hf' : Firm f) (hP : Has f P) (hh : ∀ a, P a → Firm (h a)) : Firm (bindX f h) := ⟨fun L M lim s e hb hb' he hn h1 h2 => by
  unfold bindX at he ⊢
  cases hfs : f L lim s with
  | error x =>
    rw [hfs] at he
    injection he with he
    subst he
    rw [hf'.all L M lim s x hb hb' hfs hn h1 h2]
  | ok r =>
    obtain ⟨a, s1⟩ := r
    rw [hfs] at he
    obtain ⟨a1, a2, a3, a4, a5, a6⟩ := hf.all L lim s a s1 hb hfs h1 h2
    rw [a6 (L ++ M) lim hb' (app_take a2) a4]
    exact (hh a (hP L lim s a s1 hb hfs h1 h2)).all L M lim s1 e hb hb' he hn a2 a4⟩
theorem num_has {n : Nat} : Has (numX n) (fun x => x < 2 ^ n) := fun L lim s a s' hb he _ _ => by
  unfold numX at he
  split at he
  · cases he
  · injection he with he
    injection he with he _
    subst he
    have := numB_lt ((hb.1.drop s.pos).take n)
    refine Nat.lt_of_lt_of_le this (Nat.pow_le_pow_right (by decide) ?_)
    rw [List.length_take]; omega
theorem low_set {h : List Nat} (hl : Low h) (i x : Nat) (hx : x ≤ 15) : Low (h.set i x) := fun y hy => by
  rcases List.mem_or_eq_of_mem_set hy with h1 | h1
  · exact hl y h1
  · omega
theorem help_low (k i : Nat) (h : List Nat) (hl : Low h) : Has (helpX k i h) Low := by
  induction k generalizing i h with
  | zero =>
    intro L lim s a s' hb he _ _
    injection he with he
    injection he with he _
    subst he; exact hl
  | succ k ih =>
    intro L lim s a s' hb he h1 h2
    obtain ⟨u, s1, e1, e2⟩ := bind_ok he
    have g1 := good_step.all L lim s u s1 hb e1 h1 h2
    obtain ⟨x, s2, e3, e4⟩ := bind_ok e2
    have g2 := (good_num 3).all L lim s1 x s2 hb e3 g1.2.1 g1.2.2.2.1
    have hx := num_has L lim s1 x s2 hb e3 g1.2.1 g1.2.2.2.1
    exact ih (i + 1) (h.set (places.getD i 0) x) (low_set hl _ _ (by omega)) L lim s2 a s' hb e4 g2.2.1 g2.2.2.2.1
theorem run_low (s : Nat) (l : List Nat) (hs : s ≤ 18) (hl : Low l) : Has (runX s l) (fun r => r.2 ≤ 15 ∧ 1 ≤ r.1) := by
  intro L lim x r x' hb he _ _
  unfold runX at he
  split at he
  · split at he
    · cases he
    · obtain ⟨u, s1, e1, e2⟩ := bind_ok he
      injection e2 with e2
      injection e2 with e2 _
      subst e2
      refine ⟨?_, by show 1 ≤ 3 + u; omega⟩
      show l.getLastD 0 ≤ 15
      cases l with
      | nil => simp
      | cons y t =>
        rw [List.getLastD_cons]
        rcases List.eq_nil_or_concat t with rfl | ⟨t', z, rfl⟩
        · exact hl y (by simp)
        · simp only [List.concat_eq_append, List.getLastD_concat]; exact hl z (by simp)
  · split at he
    · obtain ⟨u, s1, e1, e2⟩ := bind_ok he
      injection e2 with e2
      injection e2 with e2 _
      subst e2
      exact ⟨by show 0 ≤ 15; omega, by show 1 ≤ 3 + u; omega⟩
    · split at he
      · obtain ⟨u, s1, e1, e2⟩ := bind_ok he
        injection e2 with e2
        injection e2 with e2 _
        subst e2
        exact ⟨by show 0 ≤ 15; omega, by show 1 ≤ 11 + u; omega⟩
      · injection he with he
        injection he with he _
        subst he
        exact ⟨by show s ≤ 15; omega, by show 1 ≤ 1; omega⟩
theorem sign_has (ls : List Nat) : Has (signX ls) (fun s => s < ls.length) := fun L lim s a s' hb he _ _ => by
  unfold signX at he
  by_cases hE : tkE ls (L.drop s.pos) ≠ 0
  · rw [if_pos hE] at he; cases he
  · rw [if_neg hE] at he
    obtain ⟨x, hO, hx⟩ := tk_ok (ls := ls) (M := L.drop s.pos) (by omega)
    injection he with he
    injection he with he _
    subst he
    unfold tkS
    rw [hO]
    exact lenAt_lt hx.1
theorem low_app {a b : List Nat} (ha : Low a) (hb : Low b) : Low (a ++ b) := fun x hx => by
  rcases List.mem_append.1 hx with h | h
  · exact ha x h
  · exact hb x h
theorem low_rep {n x : Nat} (h : x ≤ 15) : Low (List.replicate n x) := fun y hy => by rw [List.eq_of_mem_replicate hy]; exact h
theorem lens_low (h : List Nat) (hlen : h.length ≤ 19) (total k : Nat) (l : List Nat) (hl : Low l) : Has (lensX h total k l) Low := by
  induction k generalizing l with
  | zero => intro L lim s a s' hb he; cases he
  | succ k ih =>
    intro L lim s a s' hb he h1 h2
    unfold lensX at he
    split at he
    · injection he with he
      injection he with he _
      subst he; exact hl
    · obtain ⟨u, s1, e1, e2⟩ := bind_ok he
      have g1 := good_step.all L lim s u s1 hb e1 h1 h2
      obtain ⟨x, s2, e3, e4⟩ := bind_ok e2
      have g2 := (good_sign h).all L lim s1 x s2 hb e3 g1.2.1 g1.2.2.2.1
      have hx := sign_has h L lim s1 x s2 hb e3 g1.2.1 g1.2.2.2.1
      obtain ⟨r, s3, e5, e6⟩ := bind_ok e4
      have g3 := (good_run x l).all L lim s2 r s3 hb e5 g2.2.1 g2.2.2.2.1
      have hr := run_low x l (by omega) hl L lim s2 r s3 hb e5 g2.2.1 g2.2.2.2.1
      split at e6
      · cases e6
      · exact ih (l ++ List.replicate r.1 r.2) (low_app hl (low_rep hr.1)) L lim s3 a s' hb e6 g3.2.1 g3.2.2.2.1
theorem help_len (k i : Nat) (h : List Nat) : Has (helpX k i h) (fun a => a.length = h.length) := by
  induction k generalizing i h with
  | zero =>
    intro L lim s a s' hb he _ _
    injection he with he
    injection he with he _
    subst he; rfl
  | succ k ih =>
    intro L lim s a s' hb he h1 h2
    obtain ⟨u, s1, e1, e2⟩ := bind_ok he
    have g1 := good_step.all L lim s u s1 hb e1 h1 h2
    obtain ⟨x, s2, e3, e4⟩ := bind_ok e2
    have g2 := (good_num 3).all L lim s1 x s2 hb e3 g1.2.1 g1.2.2.2.1
    have := ih (i + 1) (h.set (places.getD i 0) x) L lim s2 a s' hb e4 g2.2.1 g2.2.2.2.1
    simpa using this
theorem low_take {l : List Nat} (h : Low l) (k : Nat) : Low (l.take k) := fun x hx => h x (List.mem_of_mem_take hx)
theorem low_drop {l : List Nat} (h : Low l) (k : Nat) : Low (l.drop k) := fun x hx => h x (List.mem_of_mem_drop hx)
theorem low_zero : Low (List.replicate 19 0) := low_rep (by decide)
theorem firm_told : Firm toldX := by
  refine firm_bind (good_num 5) (firm_num 5) fun a => firm_bind (good_num 5) (firm_num 5) fun b => firm_bind (good_num 4) (firm_num 4) fun c => ?_
  split
  · exact firm_fail 2
  · refine firm_bind' (good_help _ _ _) (firm_help _ _ _) (help_low _ _ _ low_zero) fun h hl => ?_
    split
    · exact firm_fail 2
    · refine firm_bind (good_lens _ _ _ _) (firm_lens hl _ _ _) fun l => ?_
      split
      · exact firm_fail 2
      · exact firm_pure _
theorem told_low : Has toldX (fun c => Low c.1 ∧ Low c.2) := by
  intro L lim s0 r s' hb he h1 h2
  obtain ⟨a, s1, e1, he⟩ := bind_ok he
  have g1 := (good_num 5).all L lim s0 a s1 hb e1 h1 h2
  obtain ⟨b, s2, e2, he⟩ := bind_ok he
  have g2 := (good_num 5).all L lim s1 b s2 hb e2 g1.2.1 g1.2.2.2.1
  obtain ⟨c, s3, e3, he⟩ := bind_ok he
  have g3 := (good_num 4).all L lim s2 c s3 hb e3 g2.2.1 g2.2.2.2.1
  split at he
  · cases he
  · obtain ⟨h, s4, e4, he⟩ := bind_ok he
    have g4 := (good_help _ _ _).all L lim s3 h s4 hb e4 g3.2.1 g3.2.2.2.1
    have hlen := help_len _ _ _ L lim s3 h s4 hb e4 g3.2.1 g3.2.2.2.1
    split at he
    · cases he
    · obtain ⟨l, s5, e5, he⟩ := bind_ok he
      have hl := lens_low h (by rw [hlen]; simp) _ _ [] (fun x hx => by cases hx) L lim s4 l s5 hb e5 g4.2.1 g4.2.2.2.1
      split at he
      · cases he
      · injection he with he
        injection he with he _
        subst he
        exact ⟨low_take hl _, low_drop hl _⟩
theorem good_rest (b : List Nat) (v : Nat) : Good 0 0 (if v = 256 then pureX true else if v < 256 then bindX (putX v) fun _ => pureX false else if 285 < v then failX 2 else
    bindX (numX (lenMore v)) fun x => bindX (signX b) fun d => if 29 < d then failX 2 else bindX (numX (distMore d)) fun y => bindX (copyX (lenBase v + x) (distSum d + y)) fun _ => pureX false) := by
  split
  · exact good_pure _
  · split
    · exact (good_bind (good_put v) fun _ => good_pure _).weak (by omega)
    · split
      · exact good_fail 2
      · refine (good_bind (k' := 0) (g' := 0) (good_num _) fun x => ?_).weak (k' := 0) (g' := 0) (by omega)
        refine (good_bind (k' := 0) (g' := 0) (good_sign b) fun d => ?_).weak (k' := 0) (g' := 0) (by omega)
        split
        · exact good_fail 2
        · exact (good_bind (good_num _) fun y => good_bind (good_copy _ _) fun _ => good_pure _).weak (by omega)
theorem firm_letter {a b : List Nat} (ha : Low a) (hb : Low b) : Firm (letterX a b) := by
  refine firm_bind good_step firm_step fun _ => firm_bind (good_sign a) (firm_sign ha) fun s => ?_
  split
  · exact firm_pure _
  · split
    · exact firm_bind (good_put s) (firm_put s) fun _ => firm_pure _
    · split
      · exact firm_fail 2
      · refine firm_bind (good_num _) (firm_num _) fun x => firm_bind (good_sign b) (firm_sign hb) fun d => ?_
        split
        · exact firm_fail 2
        · exact firm_bind (good_num _) (firm_num _) fun y => firm_bind (good_copy _ _) (firm_copy _ _) fun _ => firm_pure _
theorem firm_loop {body : X Bool} (hg : Good 0 0 body) (h : Firm body) (k : Nat) : Firm (loopX body k) := by
  induction k with
  | zero => exact firm_fail 99
  | succ k ih => exact firm_bind hg h fun d => by split; exact firm_pure (); exact ih
theorem fixAB_low : Low fixA ∧ Low fixB := by
  constructor
  · intro x hx; revert x; decide +kernel
  · intro x hx; revert x; decide +kernel
theorem firm_kind (F kind : Nat) : Firm (kindX F kind) := by
  unfold kindX
  split
  · exact firm_stored
  · split
    · exact firm_loop (good_letter _ _) (firm_letter fixAB_low.1 fixAB_low.2) F
    · split
      · exact firm_bind' good_told firm_told told_low fun c hc => firm_loop (good_letter _ _) (firm_letter hc.1 hc.2) F
      · exact firm_fail 2
theorem firm_block (F : Nat) : Firm (blockX F) :=
  firm_bind good_step firm_step fun _ => firm_bind (good_num 1) (firm_num 1) fun _ => firm_bind (good_num 2) (firm_num 2) fun kind => firm_bind (good_kind F kind) (firm_kind F kind) fun _ => firm_pure _

/-- It is never said that it was not often enough. -/
def Ends {α : Type} (f : X α) (F : Nat) : Prop := ∀ L lim s, Bits L → L.length ≤ F → s.pos ≤ L.length → s.out.length ≤ lim → f L lim s ≠ .error 99
theorem ends_bind {α β : Type} {F k g : Nat} {f : X α} {h : α → X β} (hf : Good k g f) (hf' : Ends f F) (hh : ∀ a, Ends (h a) F) : Ends (bindX f h) F := fun L lim s hb hF h1 h2 he => by
  unfold bindX at he
  cases hfs : f L lim s with
  | error x =>
    rw [hfs] at he
    injection he with he
    subst he
    exact hf' L lim s hb hF h1 h2 hfs
  | ok r =>
    obtain ⟨a, s1⟩ := r
    rw [hfs] at he
    obtain ⟨a1, a2, a3, a4, a5, a6⟩ := hf.all L lim s a s1 hb hfs h1 h2
    exact hh a L lim s1 hb hF a2 a4 he
theorem ends_pure {α : Type} (a : α) (F : Nat) : Ends (pureX a) F := fun L lim s _ _ _ _ he => by cases he
theorem ends_fail {α : Type} {e F : Nat} (h : e ≠ 99) : Ends (failX e : X α) F := fun L lim s _ _ _ _ he => by injection he with he; exact h he
theorem ends_num (n F : Nat) : Ends (numX n) F := fun L lim s _ _ _ _ he => by
  unfold numX at he
  split at he
  · injection he with he; omega
  · cases he
theorem ends_sign (ls : List Nat) (F : Nat) : Ends (signX ls) F := fun L lim s _ _ _ _ he => by
  unfold signX at he
  split at he
  · injection he with he
    unfold tkE at he
    split at he
    · omega
    · split at he <;> omega
  · cases he
theorem ends_step (F : Nat) : Ends stepX F := fun L lim s _ _ _ _ he => by cases he
theorem ends_align (F : Nat) : Ends alignX F := fun L lim s _ _ _ _ he => by cases he
theorem ends_store (n F : Nat) : Ends (storeX n) F := fun L lim s _ _ _ _ he => by
  unfold storeX at he
  split at he
  · injection he with he; omega
  · split at he
    · injection he with he; omega
    · cases he
theorem ends_put (x F : Nat) : Ends (putX x) F := fun L lim s _ _ _ _ he => by
  unfold putX at he
  split at he
  · injection he with he; omega
  · cases he
theorem ends_copy (n far F : Nat) : Ends (copyX n far) F := fun L lim s _ _ _ _ he => by
  unfold copyX at he
  split at he
  · injection he with he; omega
  · split at he
    · injection he with he; omega
    · cases he
theorem ends_stored (F : Nat) : Ends storedX F :=
  ends_bind good_align (ends_align F) fun _ => ends_bind (good_num 16) (ends_num 16 F) fun n => ends_bind (good_num 16) (ends_num 16 F) fun t => by split; exact ends_fail (by decide); exact ends_store n F
theorem ends_help (F k i : Nat) (h : List Nat) : Ends (helpX k i h) F := by
  induction k generalizing i h with
  | zero => exact ends_pure h F
  | succ k ih => exact ends_bind good_step (ends_step F) fun _ => ends_bind (good_num 3) (ends_num 3 F) fun x => ih _ _
theorem ends_run (F s : Nat) (l : List Nat) : Ends (runX s l) F := by
  unfold runX
  split
  · split
    · exact ends_fail (by decide)
    · exact ends_bind (good_num 2) (ends_num 2 F) fun x => ends_pure _ F
  · split
    · exact ends_bind (good_num 3) (ends_num 3 F) fun x => ends_pure _ F
    · split
      · exact ends_bind (good_num 7) (ends_num 7 F) fun x => ends_pure _ F
      · exact ends_pure _ F
theorem run_one (s : Nat) (l : List Nat) : Has (runX s l) (fun r => 1 ≤ r.1) := by
  intro L lim x r x' hb he _ _
  unfold runX at he
  split at he
  · split at he
    · cases he
    · obtain ⟨u, s1, e1, e2⟩ := bind_ok he
      injection e2 with e2
      injection e2 with e2 _
      subst e2
      show 1 ≤ 3 + u; omega
  · split at he
    · obtain ⟨u, s1, e1, e2⟩ := bind_ok he
      injection e2 with e2
      injection e2 with e2 _
      subst e2
      show 1 ≤ 3 + u; omega
    · split at he
      · obtain ⟨u, s1, e1, e2⟩ := bind_ok he
        injection e2 with e2
        injection e2 with e2 _
        subst e2
        show 1 ≤ 11 + u; omega
      · injection he with he
        injection he with he _
        subst he
        show 1 ≤ 1; omega
theorem ends_bind' {α β : Type} {F k g : Nat} {f : X α} {h : α → X β} {P : α → Prop} (hf : Good k g f) (hf' : Ends f F) (hP : Has f P) (hh : ∀ a, P a → Ends (h a) F) : Ends (bindX f h) F := fun L lim s hb hF h1 h2 he => by
  unfold bindX at he
  cases hfs : f L lim s with
  | error x =>
    rw [hfs] at he
    injection he with he
    subst he
    exact hf' L lim s hb hF h1 h2 hfs
  | ok r =>
    obtain ⟨a, s1⟩ := r
    rw [hfs] at he
    obtain ⟨a1, a2, a3, a4, a5, a6⟩ := hf.all L lim s a s1 hb hfs h1 h2
    exact hh a (hP L lim s a s1 hb hfs h1 h2) L lim s1 hb hF a2 a4 he
theorem ends_lens (F : Nat) (h : List Nat) (total k : Nat) (l : List Nat) (hk : total < l.length + k) (hle : l.length ≤ total) : Ends (lensX h total k l) F := by
  induction k generalizing l with
  | zero => omega
  | succ k ih =>
    unfold lensX
    split
    · exact ends_pure l F
    · refine ends_bind good_step (ends_step F) fun _ => ends_bind (good_sign h) (ends_sign h F) fun s => ends_bind' (good_run s l) (ends_run F s l) (run_one s l) fun r hr => ?_
      split
      · exact ends_fail (by decide)
      · exact ih _ (by rw [List.length_append, List.length_replicate]; omega) (by rw [List.length_append, List.length_replicate]; omega)
theorem ends_told (F : Nat) : Ends toldX F := by
  refine ends_bind (good_num 5) (ends_num 5 F) fun a => ends_bind (good_num 5) (ends_num 5 F) fun b => ends_bind (good_num 4) (ends_num 4 F) fun c => ?_
  split
  · exact ends_fail (by decide)
  · refine ends_bind (good_help _ _ _) (ends_help F _ _ _) fun h => ?_
    split
    · exact ends_fail (by decide)
    · refine ends_bind (good_lens _ _ _ _) (ends_lens F h _ _ _ (by simp) (by simp)) fun l => ?_
      split
      · exact ends_fail (by decide)
      · exact ends_pure _ F
theorem ends_letter (a b : List Nat) (F : Nat) : Ends (letterX a b) F := by
  refine ends_bind good_step (ends_step F) fun _ => ends_bind (good_sign a) (ends_sign a F) fun s => ?_
  split
  · exact ends_pure _ F
  · split
    · exact ends_bind (good_put s) (ends_put s F) fun _ => ends_pure _ F
    · split
      · exact ends_fail (by decide)
      · refine ends_bind (good_num _) (ends_num _ F) fun x => ends_bind (good_sign b) (ends_sign b F) fun d => ?_
        split
        · exact ends_fail (by decide)
        · exact ends_bind (good_num _) (ends_num _ F) fun y => ends_bind (good_copy _ _) (ends_copy _ _ F) fun _ => ends_pure _ F
theorem ends_loop {body : X Bool} {F : Nat} (hg : Good 0 0 body) (hgo : Goes body) (h : Ends body F) : ∀ k L lim s, Bits L → L.length ≤ F → s.pos ≤ L.length → s.out.length ≤ lim → L.length < s.pos + k → loopX body k L lim s ≠ .error 99
  | 0, L, lim, s, _, _, h1, _, hk => by omega
  | k + 1, L, lim, s, hb, hF, h1, h2, hk => fun he => by
    unfold loopX bindX at he
    cases hfs : body L lim s with
    | error x =>
      rw [hfs] at he
      injection he with he
      subst he
      exact h L lim s hb hF h1 h2 hfs
    | ok r =>
      obtain ⟨a, s1⟩ := r
      rw [hfs] at he
      obtain ⟨a1, a2, a3, a4, a5, a6⟩ := hg.all L lim s a s1 hb hfs h1 h2
      have hlt := hgo L lim s a s1 hb hfs h1 h2
      cases a with
      | true => cases he
      | false => exact ends_loop hg hgo h k L lim s1 hb hF a2 a4 (by omega) he
theorem ends_kind {F G kind : Nat} (hG : F < G) : Ends (kindX G kind) F := by
  unfold kindX
  split
  · exact ends_stored F
  · split
    · exact fun L lim s hb hF h1 h2 => ends_loop (good_letter _ _) (goes_letter _ _) (ends_letter _ _ F) G L lim s hb hF h1 h2 (by omega)
    · split
      · exact ends_bind good_told (ends_told F) fun c => fun L lim s hb hF h1 h2 => ends_loop (good_letter _ _) (goes_letter _ _) (ends_letter _ _ F) G L lim s hb hF h1 h2 (by omega)
      · exact ends_fail (by decide)
theorem ends_block {F G : Nat} (hG : F < G) : Ends (blockX G) F :=
  ends_bind good_step (ends_step F) fun _ => ends_bind (good_num 1) (ends_num 1 F) fun _ => ends_bind (good_num 2) (ends_num 2 F) fun kind => ends_bind (good_kind G kind) (ends_kind hG) fun _ => ends_pure _ F
theorem infl_ends {F : Nat} {L : List UInt8} {lim : Nat} (hb : Bits L) (hF : L.length < F) : inflF F L lim ≠ .error 99 :=
  ends_loop (good_block F) (goes_block F) (ends_block (F := L.length) hF) F L lim ⟨0, [], 0⟩ hb (Nat.le_refl _) (Nat.zero_le _) (Nat.zero_le _) (by simpa using hF)

/-- With more rounds the same error is found. -/
def Fuel {α : Type} (f f' : X α) : Prop := ∀ L lim s e, Bits L → f L lim s = .error e → e ≠ 99 → s.pos ≤ L.length → s.out.length ≤ lim → f' L lim s = .error e
theorem fuel_loop {f f' : X Bool} (hf : Good 0 0 f) (hok : ∀ L lim s a s', Bits L → f L lim s = .ok (a, s') → s.pos ≤ L.length → s.out.length ≤ lim → f' L lim s = .ok (a, s')) (he : Fuel f f') : ∀ k k', k ≤ k' → Fuel (loopX f k) (loopX f' k')
  | 0, _, _ => fun L lim s e _ h hn _ _ => by injection h with h; exact absurd h.symm hn
  | k + 1, 0, h => by omega
  | k + 1, k' + 1, hk => fun L lim s e hb h hn h1 h2 => by
    unfold loopX bindX at h ⊢
    cases hfs : f L lim s with
    | error x =>
      rw [hfs] at h
      injection h with h
      subst h
      rw [he L lim s x hb hfs hn h1 h2]
    | ok r =>
      obtain ⟨a, s1⟩ := r
      rw [hfs] at h
      rw [hok L lim s a s1 hb hfs h1 h2]
      obtain ⟨a1, a2, a3, a4, a5, a6⟩ := hf.all L lim s a s1 hb hfs h1 h2
      cases a with
      | true => cases h
      | false => exact fuel_loop hf hok he k k' (by omega) L lim s1 e hb h hn a2 a4
theorem fuel_refl {α : Type} (f : X α) : Fuel f f := fun _ _ _ _ _ h _ _ _ => h
theorem fuel_kind {F F' kind : Nat} (h : F ≤ F') : Fuel (kindX F kind) (kindX F' kind) := by
  unfold kindX
  split
  · exact fuel_refl _
  · split
    · exact fuel_loop (good_letter _ _) (fun _ _ _ _ _ _ h _ _ => h) (fuel_refl _) F F' h
    · split
      · intro L lim s e hb he hn h1 h2
        unfold bindX at he ⊢
        cases hfs : toldX L lim s with
        | error x => rw [hfs] at he; exact he
        | ok r =>
          obtain ⟨a, s1⟩ := r
          rw [hfs] at he
          obtain ⟨a1, a2, a3, a4, a5, a6⟩ := good_told.all L lim s a s1 hb hfs h1 h2
          exact fuel_loop (good_letter _ _) (fun _ _ _ _ _ _ h _ _ => h) (fuel_refl _) F F' h L lim s1 e hb he hn a2 a4
      · exact fuel_refl _
theorem loop_ok {body : X Bool} (hg : Good 0 0 body) : ∀ k k', k ≤ k' → ∀ L lim s s', Bits L → loopX body k L lim s = .ok ((), s') → loopX body k' L lim s = .ok ((), s')
  | 0, _, _, L, lim, s, s', _, h => by cases h
  | k + 1, 0, h, _, _, _, _, _, _ => by omega
  | k + 1, k' + 1, hk, L, lim, s, s', hb, h => by
    obtain ⟨a, s1, e1, e2⟩ := bind_ok h
    refine ok_bind e1 ?_
    cases a with
    | true => exact e2
    | false => exact loop_ok hg k k' (by omega) L lim s1 s' hb e2
theorem kind_ok {F F' kind : Nat} (h : F ≤ F') {L : List UInt8} {lim : Nat} {s s' : Sx} (hb : Bits L) (he : kindX F kind L lim s = .ok ((), s')) : kindX F' kind L lim s = .ok ((), s') := by
  unfold kindX at he ⊢
  split at he
  · rename_i h0; rw [if_pos h0]; exact he
  · rename_i h0
    rw [if_neg h0]
    split at he
    · rename_i h3
      rw [if_pos h3]
      exact loop_ok (good_letter _ _) F F' h L lim s s' hb he
    · rename_i h3
      rw [if_neg h3]
      split at he
      · rename_i h4
        rw [if_pos h4]
        obtain ⟨c, s1, e1, e2⟩ := bind_ok he
        exact ok_bind e1 (loop_ok (good_letter _ _) F F' h L lim s1 s' hb e2)
      · cases he
theorem block_ok {F F' : Nat} (h : F ≤ F') {L : List UInt8} {lim : Nat} {s s' : Sx} {d : Bool} (hb : Bits L) (he : blockX F L lim s = .ok (d, s')) : blockX F' L lim s = .ok (d, s') := by
  obtain ⟨u, s1, e1, he⟩ := bind_ok he
  obtain ⟨last, s2, e2, he⟩ := bind_ok he
  obtain ⟨kind, s3, e3, he⟩ := bind_ok he
  obtain ⟨v, s4, e4, he⟩ := bind_ok he
  exact ok_bind e1 (ok_bind e2 (ok_bind e3 (ok_bind (kind_ok h hb e4) he)))
theorem fuel_bind {α β : Type} {k g : Nat} {f : X α} {h h' : α → X β} (hf : Good k g f) (hh : ∀ a, Fuel (h a) (h' a)) : Fuel (bindX f h) (bindX f h') := fun L lim s e hb he hn h1 h2 => by
  unfold bindX at he ⊢
  cases hfs : f L lim s with
  | error x => rw [hfs] at he; exact he
  | ok r =>
    obtain ⟨a, s1⟩ := r
    rw [hfs] at he
    obtain ⟨a1, a2, a3, a4, a5, a6⟩ := hf.all L lim s a s1 hb hfs h1 h2
    exact hh a L lim s1 e hb he hn a2 a4
theorem fuel_block {F F' : Nat} (h : F ≤ F') : Fuel (blockX F) (blockX F') :=
  fuel_bind good_step fun _ => fuel_bind (good_num 1) fun last => fuel_bind (good_num 2) fun kind => fun L lim s e hb he hn h1 h2 => by
    unfold bindX at he ⊢
    cases hfs : kindX F kind L lim s with
    | error x =>
      rw [hfs] at he
      injection he with he
      subst he
      rw [fuel_kind h L lim s x hb hfs hn h1 h2]
    | ok r => rw [hfs] at he; cases he
theorem infl_fuel {F F' : Nat} (h : F ≤ F') {L : List UInt8} {lim e : Nat} (hb : Bits L) (he : inflF F L lim = .error e) (hn : e ≠ 99) : inflF F' L lim = .error e :=
  fuel_loop (good_block F) (fun _ _ _ _ _ hb he _ _ => block_ok h hb he) (fuel_block h) F F' h L lim ⟨0, [], 0⟩ e hb he hn (Nat.zero_le _) (Nat.zero_le _)
/-- A beginning of packed bytes: where it isn't that bytes lack, it is what all of them are. -/
theorem infl_piece {a b : List UInt8} {lim : Nat} {r : Except Nat (Unit × Sx)} (h : inflF (8 * a.length + 1) (bitsL a) lim = r) (hr : r ≠ .error 10) : inflF (8 * (a ++ b).length + 1) (bitsL (a ++ b)) lim = r := by
  have hB : Bits (bitsL a) := ⟨bin_bitsL a, by rw [bitsL_length]; omega⟩
  have hB' : Bits (bitsL (a ++ b)) := ⟨bin_bitsL _, by rw [bitsL_length]; omega⟩
  have hap : bitsL (a ++ b) = bitsL a ++ bitsL b := bitsL_append a b
  cases r with
  | ok x =>
    obtain ⟨u, s⟩ := x
    have g := infl_bounds hB h
    refine infl_same hB hB' h ?_ g.2.2.1 ?_
    · rw [hap]; exact app_take g.2.1
    · have := g.2.1; rw [bitsL_length] at this; rw [List.length_append]; omega
  | error e =>
    have h99 : e ≠ 99 := fun e99 => infl_ends (F := 8 * a.length + 1) (lim := lim) hB (by rw [bitsL_length]; omega) (by rw [h, e99])
    have h10 : e ≠ 10 := fun e10 => hr (by rw [e10])
    have h1 := infl_fuel (F' := 8 * (a ++ b).length + 1) (by rw [List.length_append]; omega) hB h h99
    rw [hap]
    rw [hap] at hB'
    exact (firm_loop (good_block _) (firm_block _) _).all (bitsL a) (bitsL b) lim ⟨0, [], 0⟩ e hB hB' h1 h10 (Nat.zero_le _) (Nat.zero_le _)
end Go.Proofs.YtpnnlhegncbfaaaGreatDoor
