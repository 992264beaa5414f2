/- Contracts of the closure in Unquote, and of Unquote. -/
import Derived.Test.YtanmkddmebhdpaaDoorUtz
namespace Go.Proofs.YtanmkddmebhdpaaDoor
set_option maxRecDepth 20000
open Go.RowKit Go.Lib

theorem Own.blocks {w w' : World} {B : Nat} {v : Value} {l : List UInt8} (h : Own w B v l) (hb : ∀ k, v.ownBlock = some k → w'.heap[k]? = w.heap[k]?) : Own w' B v l := by
  refine ⟨h.1, ?_⟩
  rcases h.2 with h1 | ⟨q, cap, cur, h1, h2, h3, h4⟩
  · exact .inl h1
  · exact .inr ⟨q, cap, cur, h1, h2, by rw [hb q (by rw [h1]; rfl)]; exact h3, h4⟩
theorem fin2_block {N k : Nat} (w : World) (a : Value) (b : Bool) (h1 : k ≠ N) (h2 : k ≠ N + 1) : (fin2 N w a b).heap[k]? = w.heap[k]? := by
  unfold fin2
  rw [heap_setCell_other _ ⟨N + 1, 0, none⟩ k _ h2, heap_setCell_other _ ⟨N, 0, none⟩ k _ h1]
theorem fin2_size (N : Nat) (w : World) (a : Value) (b : Bool) : (fin2 N w a b).heap.size = w.heap.size := by simp [fin2, World.setCell]
/-- What the closure leaves in the two variables. -/
def CloM (w : World) (g1 g2 : Nat) (X : Except Nat (List UInt8 × Nat)) (e : Ending) (w' : World) : Prop :=
  (∃ k, X = .error k ∧ ThrownU w k e w') ∨
  (∃ t u v, X = .ok (t, u) ∧ e = .returned (.tuple #[]) ∧ Row w' g1 #[v] 35 ∧ Row w' g2 #[.int .i64 ((u : Nat) : Int)] 3 ∧ Own w' w.heap.size v t ∧ w.heap.size ≤ w'.heap.size ∧ w'.os = w.os ∧ w'.tape = w.tape ∧ w'.output = w.output ∧ ∀ k, k < w.heap.size → k ≠ g1 → k ≠ g2 → w'.heap[k]? = w.heap[k]?)
set_option maxHeartbeats 4000000 in
theorem closure_any (s : ByteArray) (L : List UInt8) (w : World) (g0 g1 g2 : Nat) (h : s.data.toList = L) (hs : L.length ≤ 300000) (hT : TabsU w)
    (h0 : Row w g0 #[.string s] 9) (h1 : Row w g1 #[.slice none 0 0] 35) (h2 : Row w g2 #[.int .i64 0] 3) (h12 : g1 ≠ g2) :
    Calls Tryd.prog 15 #[.pointer (some ⟨g0, 0, none⟩), .pointer (some ⟨g1, 0, none⟩), .pointer (some ⟨g2, 0, none⟩)] w (CloM w g1 g2 (unqF fullP L)) := by
  have HL := Lib.hid (literal_any s L w h hs hT)
  have HR := Lib.hid (And.intro h1 (And.intro h2 h12))
  obtain ⟨X, hX⟩ : ∃ X, unqF fullP L = X := ⟨_, rfl⟩
  rw [hX] at HL ⊢
  have k0 : w.cell? ⟨g0, 0, none⟩ = some (.string s) := h0.cell 0
  clear h hs hT h0 h1 h2 h12 hX
  go_enter Tryd.func15, Tryd.ntmps15
  go_wp2_with fail
  refine HL.out.mono ?_
  rintro e w1 (⟨k, hk, q, rfl, hq⟩ | ⟨t, u, v, hk, rfl, ho, hb⟩)
  · exact ⟨rfl, .inl ⟨k, hk, q, rfl, hq⟩⟩
  · have hr1 := HR.out.1.below hb HR.out.1.lt
    have hr2 := HR.out.2.1.below hb HR.out.2.1.lt
    have h12 := HR.out.2.2
    have k1 : w1.cell? ⟨g1, 0, none⟩ = some (.slice none 0 0) := hr1.cell 0
    have k2 : (w1.setCell ⟨g1, 0, none⟩ v).cell? ⟨g2, 0, none⟩ = some (.int .i64 0) := (hr2.other (Ne.symm h12) 0 v).cell 0
    have f1 := hr1.thawed 0
    have f2 := (hr2.other (Ne.symm h12) 0 v).thawed 0
    have hgA := grown_setCell w1 g1 0 v
    have hgB := grown_setCell (w1.setCell ⟨g1, 0, none⟩ v) g2 0 (.int .i64 (u : Int))
    have HF : RowKit.Hid (CloM w g1 g2 X (.returned (.tuple #[])) ((w1.setCell ⟨g1, 0, none⟩ v).setCell ⟨g2, 0, none⟩ (.int .i64 (u : Int)))) := Lib.hid (.inr ⟨t, u, v, hk, rfl,
      (hr1.set 0 v).other h12 0 _, (hr2.other (Ne.symm h12) 0 v).set 0 _,
      ho.blocks (fun k hk => by
        have hlt := (World.ownsRow.lt ho k hk).1
        have e1 := HR.out.1.lt
        have e2 := HR.out.2.1.lt
        rw [heap_setCell_other _ ⟨g2, 0, none⟩ k _ (by show k ≠ g2; omega), heap_setCell_other _ ⟨g1, 0, none⟩ k _ (by show k ≠ g1; omega)]),
      Nat.le_trans hb.size (Nat.le_trans hgA.size hgB.size), (hgB.os.trans hgA.os).trans hb.os, (hgB.tape.trans hgA.tape).trans hb.tape, (hgB.output.trans hgA.output).trans hb.output, fun k hk hk1 hk2 => by
        rw [heap_setCell_other _ ⟨g2, 0, none⟩ k _ hk2, heap_setCell_other _ ⟨g1, 0, none⟩ k _ hk1]
        exact hb.block k hk⟩)
    obtain ⟨Av, cv, hv⟩ := ho.slice
    clear hr1 hr2 hgA hgB ho hb hk HL
    generalize t.length = p at hv
    subst hv
    go_wp2_with fail
    go_end0
    exact HF.out
/-- What Unquote answers. -/
def unqR (X : Except Nat (List UInt8 × Nat)) : Ending := match X with
  | .error k => .returned (.tuple #[.string ⟨#[]⟩, .int .i64 0, .iface 39 (.int .i64 (k : Int))])
  | .ok (t, u) => .returned (.tuple #[.string ⟨t.toArray⟩, .int .i64 (u : Int), .nilIface])
set_option maxHeartbeats 8000000 in
theorem unquote_any (s : ByteArray) (L : List UInt8) (w : World) (h : s.data.toList = L) (hs : L.length ≤ 300000) (hT : TabsU w) :
    Calls Tryd.prog 7 #[.string s] w fun e w' => e = unqR (unqF fullP L) ∧ Below w.heap.size w w' := by
  obtain ⟨X, hX⟩ : ∃ X, unqF fullP L = X := ⟨_, rfl⟩
  have ha1 := World.grownBy_alloc w (.cells #[.string s] 9) none
  have ha2 := ha1.trans (World.grownBy_alloc (w.alloc (.cells #[.string s] 9)) (.cells #[.slice none 0 0] 35) none)
  have ha3 := ha2.trans (World.grownBy_alloc ((w.alloc (.cells #[.string s] 9)).alloc (.cells #[.slice none 0 0] 35)) (.cells #[.int .i64 0] 3) none)
  have hR0 : Row (((w.alloc (.cells #[.string s] 9)).alloc (.cells #[.slice none 0 0] 35)).alloc (.cells #[.int .i64 0] 3)) w.heap.size #[.string s] 9 :=
    ((show Row (w.alloc (.cells #[.string s] 9)) w.heap.size #[.string s] 9 from heap_alloc_new w _).grown (World.grownBy_alloc _ (.cells #[.slice none 0 0] 35) none) (by simp)).grown (World.grownBy_alloc _ _ none) (by simp)
  have hR1 : Row (((w.alloc (.cells #[.string s] 9)).alloc (.cells #[.slice none 0 0] 35)).alloc (.cells #[.int .i64 0] 3)) (w.heap.size + 1) #[.slice none 0 0] 35 := by
    have h := heap_alloc_new (w.alloc (.cells #[.string s] 9)) (.cells #[.slice none 0 0] 35)
    rw [show (w.alloc (.cells #[.string s] 9)).heap.size = w.heap.size + 1 by simp] at h
    exact Row.grown h (World.grownBy_alloc _ _ none) (by simp)
  have hR2 : Row (((w.alloc (.cells #[.string s] 9)).alloc (.cells #[.slice none 0 0] 35)).alloc (.cells #[.int .i64 0] 3)) (w.heap.size + 2) #[.int .i64 0] 3 := by
    have h := heap_alloc_new ((w.alloc (.cells #[.string s] 9)).alloc (.cells #[.slice none 0 0] 35)) (.cells #[.int .i64 0] 3)
    rw [show ((w.alloc (.cells #[.string s] 9)).alloc (.cells #[.slice none 0 0] 35)).heap.size = w.heap.size + 2 by simp] at h
    exact h
  have HS3 : RowKit.Hid ((((w.alloc (.cells #[.string s] 9)).alloc (.cells #[.slice none 0 0] 35)).alloc (.cells #[.int .i64 0] 3)).heap.size = w.heap.size + 3) := Lib.hid (by simp)
  have HG3 := Lib.hid ha3
  have HROW := Lib.hid (And.intro hR0 (And.intro hR1 hR2))
  have HH := Lib.hid (And.intro h (And.intro hs hT))
  have HX := Lib.hid hX
  rw [hX]
  clear ha1 ha2 ha3 hR0 hR1 hR2 h hs hT hX
  go_enter Tryd.func7, Tryd.ntmps7
  go_wp2_with fail
  rw [show w.heap.size + 1 + 1 = w.heap.size + 2 from rfl]
  generalize ((w.alloc (.cells #[.string s] 9)).alloc (.cells #[.slice none 0 0] 35)).alloc (.cells #[.int .i64 0] 3) = w3 at HS3 HG3 HROW ⊢
  have hb3 := below_make HG3.out
  have ha4 := World.grownBy_alloc w3 (.cells #[.pointer none] 48) none
  have ha5 := ha4.trans (World.grownBy_alloc (w3.alloc (.cells #[.pointer none] 48)) (.cells #[.bool false] 4) none)
  have hS5 : ((w3.alloc (.cells #[.pointer none] 48)).alloc (.cells #[.bool false] 4)).heap.size = w.heap.size + 5 := by simp [HS3.out]
  have hR3 : Row ((w3.alloc (.cells #[.pointer none] 48)).alloc (.cells #[.bool false] 4)) (w.heap.size + 3) #[.pointer none] 48 := by
    have h : Row (w3.alloc (.cells #[.pointer none] 48)) w3.heap.size #[.pointer none] 48 := heap_alloc_new w3 _
    rw [HS3.out] at h
    exact h.grown (World.grownBy_alloc _ _ none) (by simp)
  have hR4 : Row ((w3.alloc (.cells #[.pointer none] 48)).alloc (.cells #[.bool false] 4)) (w.heap.size + 4) #[.bool false] 4 := by
    have h : Row ((w3.alloc (.cells #[.pointer none] 48)).alloc (.cells #[.bool false] 4)) (w3.alloc (.cells #[.pointer none] 48)).heap.size #[.bool false] 4 := heap_alloc_new _ _
    rw [show (w3.alloc (.cells #[.pointer none] 48)).heap.size = w.heap.size + 4 by simp [HS3.out]] at h
    exact h
  have HS5 := Lib.hid hS5
  have HB5 := Lib.hid (hb3.trans ((below_make ha5).mono hb3.size))
  have HR5 := Lib.hid (And.intro hR3 hR4)
  have HC := Lib.hid (closure_any s L ((w3.alloc (.cells #[.pointer none] 48)).alloc (.cells #[.bool false] 4)) w.heap.size (w.heap.size + 1) (w.heap.size + 2) HH.out.1 HH.out.2.1 (HH.out.2.2.below HB5.out HH.out.2.2.size)
    (HROW.out.1.grown ha5 (by simp)) (HROW.out.2.1.grown ha5 (by simp)) (HROW.out.2.2.grown ha5 (by simp)) (by omega))
  rw [HX.out] at HC
  clear ha4 ha5 hS5 hR3 hR4 hb3
  refine try_cps 15 #[] #[.pointer (some ⟨w.heap.size, 0, none⟩), .pointer (some ⟨w.heap.size + 1, 0, none⟩), .pointer (some ⟨w.heap.size + 2, 0, none⟩)] w3 _ _ (fun _ _ => rfl) HC.out ?_
  rintro e w6 (⟨k, hk, q, rfl, hq1, hq2, hq3, hq4⟩ | ⟨t, u, v, hk, rfl, hr6, hr7, ho6, hz6, ho, ht, hou, hbl⟩)
  · clear HC
    rw [HS3.out]
    rw [HS5.out] at hq2 hq3
    have hT3 := HR5.out.1.below hq2 (by omega)
    have hT4 := HR5.out.2.below hq2 (by omega)
    have hTwo : Two (w.heap.size + 3) w6 := ⟨⟨_, hT3.cell 0⟩, hT3.thawed 0, ⟨_, hT4.cell 0⟩, hT4.thawed 0⟩
    refine ⟨hTwo, .inr (.inl ⟨some ⟨q, 0, none⟩, [], rfl, rfl, ?_⟩)⟩
    have hb6 : Below w.heap.size w w6 := HB5.out.trans (hq2.mono (by omega))
    have hb7 : Below w.heap.size w (fin2 (w.heap.size + 3) w6 (.pointer (some ⟨q, 0, none⟩)) true) :=
      ⟨hb6.os, hb6.tape, hb6.output, by rw [fin2_size]; exact hb6.size, fun k hk => by rw [fin2_block w6 _ _ (by omega) (by omega)]; exact hb6.block k hk⟩
    have hcb : (fin2 (w.heap.size + 3) w6 (.pointer (some ⟨q, 0, none⟩)) true).cell? ⟨q, 0, none⟩ = some (.int .i64 (k : Int)) := (World.cell?_of_block (w := w6) (a := ⟨q, 0, none⟩) (fin2_block w6 _ _ (show q ≠ w.heap.size + 3 by omega) (show q ≠ w.heap.size + 3 + 1 by omega))).trans hq1
    have HF := Lib.hid (And.intro hb7 (And.intro hcb hk))
    clear hb6 hb7 hcb hTwo hT3 hT4 hq1 hq2 hq3 hq4 hk HR5 HS5 HB5 HROW
    generalize fin2 (w.heap.size + 3) w6 (.pointer (some ⟨q, 0, none⟩)) true = w7 at HF ⊢
    dsimp only
    go_wp2_with fail
    refine (code_fault q 0 k w7 HF.out.2.1).mono ?_
    rintro e wz ⟨rfl, rfl⟩
    go_wp2_with fail
    refine bodyPost_ret (results_tmp3 rfl _ _ _) rfl ?_
    rw [HF.out.2.2]
    exact ⟨rfl, HF.out.1⟩
  · clear HC
    rw [HS3.out]
    rw [HS5.out] at ho6 hz6 hbl
    have hT3 : Row w6 (w.heap.size + 3) #[.pointer none] 48 := by unfold Row; rw [hbl (w.heap.size + 3) (by omega) (by omega) (by omega)]; exact HR5.out.1
    have hT4 : Row w6 (w.heap.size + 4) #[.bool false] 4 := by unfold Row; rw [hbl (w.heap.size + 4) (by omega) (by omega) (by omega)]; exact HR5.out.2
    have hTwo : Two (w.heap.size + 3) w6 := ⟨⟨_, hT3.cell 0⟩, hT3.thawed 0, ⟨_, hT4.cell 0⟩, hT4.thawed 0⟩
    refine ⟨hTwo, .inl ⟨_, rfl, ?_⟩⟩
    have hb6 : Below w.heap.size w w6 := ⟨ho.trans HB5.out.os, ht.trans HB5.out.tape, hou.trans HB5.out.output, by omega, fun k hk => (hbl k (by omega) (by omega) (by omega)).trans (HB5.out.block k hk)⟩
    have hb7 : Below w.heap.size w (fin2 (w.heap.size + 3) w6 (.pointer none) false) :=
      ⟨hb6.os, hb6.tape, hb6.output, by rw [fin2_size]; exact hb6.size, fun k hk => by rw [fin2_block w6 _ _ (by omega) (by omega)]; exact hb6.block k hk⟩
    have ho7 : Own (fin2 (w.heap.size + 3) w6 (.pointer none) false) (w.heap.size + 5) v t :=
      ho6.blocks (fun k hk => fin2_block w6 _ _ (by have := (World.ownsRow.lt ho6 k hk).1; omega) (by have := (World.ownsRow.lt ho6 k hk).1; omega))
    have hr8 : Row (fin2 (w.heap.size + 3) w6 (.pointer none) false) (w.heap.size + 1) #[v] 35 := by unfold Row; rw [fin2_block w6 _ _ (by omega) (by omega)]; exact hr6
    have hr9 : Row (fin2 (w.heap.size + 3) w6 (.pointer none) false) (w.heap.size + 2) #[.int .i64 (u : Int)] 3 := by unfold Row; rw [fin2_block w6 _ _ (by omega) (by omega)]; exact hr7
    have k7 : (fin2 (w.heap.size + 3) w6 (.pointer none) false).cell? ⟨w.heap.size + 1, 0, none⟩ = some v := hr8.cell 0
    have k8 : (fin2 (w.heap.size + 3) w6 (.pointer none) false).cell? ⟨w.heap.size + 2, 0, none⟩ = some (.int .i64 (u : Int)) := hr9.cell 0
    obtain ⟨Av, cv, hv⟩ := ho7.slice
    have HF := Lib.hid (And.intro hb7 (And.intro hk ho7.slice))
    have HOW := Lib.hid ho7
    clear hb6 hb7 ho7 hr8 hr9 hTwo hT3 hT4 hr6 hr7 ho6 hz6 ho ht hou hbl HR5 HS5 HB5 HROW hk
    generalize fin2 (w.heap.size + 3) w6 (.pointer none) false = w7 at HF HOW k7 k8 ⊢
    obtain ⟨p, hp⟩ : ∃ p, t.length = p := ⟨_, rfl⟩
    rw [hp] at hv
    subst hv
    have hst := str8 w7 w7.heap.size Av p cv t (by have := HOW.out.rd.2; exact this)
    have hst1 := str8 w7.drew w7.heap.size Av p cv t (by have := HOW.out.rd.2; exact this)
    clear hp
    dsimp only
    go_wp2_with fail
    go_region
    all_goals
      go_wp2_with fail
      refine bodyPost_ret (results_tmp3 rfl _ _ _) rfl ?_
      rw [HF.out.2.1]
      exact ⟨rfl, HF.out.1.trans ⟨rfl, rfl, rfl, Nat.le_refl _, fun _ _ => rfl⟩⟩
end Go.Proofs.YtanmkddmebhdpaaDoor
