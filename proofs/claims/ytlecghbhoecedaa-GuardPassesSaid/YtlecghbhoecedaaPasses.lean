/- What isn't a fault goes through Try and In: the contract of the law GuardPasses. -/
import Derived.Test.YtlecghbhoecedaaAlive
import Derived.Laws.EntriesVeiled
namespace Go.Proofs.Ytlecghbhoecedaa
open Go.RowKit

def Pn (n : Int) (e : Ending) : Prop := ∃ older : List PanicEntry, e = .panicked ({ v := .iface 3 (.int .i64 n), recovered := false } :: older) ∧ older.dropWhile (!·.goexit) = []

theorem in_passed (t : ByteArray) (k : Nat) (first cap : Array Value) (w : World) (n : Int)
    (hcf : ∀ (a : Array Value) (w : World), (callFunc k a).run Try.prog w = .ok (.enter k a) w)
    (hcall : Calls Try.prog k (first ++ cap) (pre2 w) fun e w' => Pn n e ∧ Below (w.heap.size + 2) (pre2 w) w') :
    Calls Try.prog 19 #[.string t, .func (.func k) first cap] w fun e w' => Pn n e ∧ Below w.heap.size w w' := by
  refine in_cps t k first cap w _ _ hcf hcall ?_
  rintro e w1 ⟨⟨older, rfl, ho⟩, hb⟩
  refine ⟨two_of_below hb, .inr (.inr ⟨n, older, rfl, ⟨_, rfl, by simpa using ho⟩, ?_⟩)⟩
  exact below_fin2 ((below_pre2 w).trans (hb.mono (by omega))) _ (Nat.le_refl _) _ _

theorem try_passed (k : Nat) (first cap : Array Value) (w : World) (n : Int)
    (hcf : ∀ (a : Array Value) (w : World), (callFunc k a).run Try.prog w = .ok (.enter k a) w)
    (hcall : Calls Try.prog k (first ++ cap) (pre2 w) fun e w' => Pn n e ∧ Below (w.heap.size + 2) (pre2 w) w') :
    Calls Try.prog 9 #[.func (.func k) first cap] w fun e w' => Pn n e ∧ Below w.heap.size w w' := by
  refine try_cps k first cap w _ _ hcf hcall ?_
  rintro e w1 ⟨⟨older, rfl, ho⟩, hb⟩
  refine ⟨two_of_below hb, .inr (.inr ⟨n, older, rfl, ⟨_, rfl, by simpa using ho⟩, ?_⟩)⟩
  exact below_fin2 ((below_pre2 w).trans (hb.mono (by omega))) _ (Nat.le_refl _) _ _

/-- Nothing but block F of what was there has turned. -/
def Off (F : Nat) (w w' : World) : Prop := w.heap.size ≤ w'.heap.size ∧ ∀ k, k < w.heap.size → k ≠ F → w'.heap[k]? = w.heap[k]?

theorem Off.trans {F : Nat} {a b c : World} (h : Off F a b) (k : Off F b c) : Off F a c :=
  ⟨Nat.le_trans h.1 k.1, fun i hi hF => (k.2 i (Nat.lt_of_lt_of_le hi h.1) hF).trans (h.2 i hi hF)⟩
theorem Off.of_below {F : Nat} {w w' : World} (h : Below w.heap.size w w') : Off F w w' := ⟨h.size, fun k hk _ => h.block k hk⟩
theorem Off.cell {F : Nat} {w w' : World} (h : Off F w w') {b o : Nat} (hb : b < w.heap.size) (hF : b ≠ F) : w'.cell? ⟨b, o, none⟩ = w.cell? ⟨b, o, none⟩ :=
  World.cell?_of_block (w := w) (h.2 b hb hF)

def Pan (F : Nat) (n : Int) (fv : Value) (w : World) : Prop := ∃ k first cap, fv = .func (.func k) first cap ∧
  (∀ (a : Array Value) (w : World), (callFunc k a).run Try.prog w = .ok (.enter k a) w) ∧
  ∀ w', Off F w w' → Calls Try.prog k (first ++ cap) w' fun e w'' => Pn n e ∧ Below w'.heap.size w' w''

theorem Pan.later {F : Nat} {n : Int} {fv : Value} {w w' : World} (h : Pan F n fv w) (ho : Off F w w') : Pan F n fv w' := by
  obtain ⟨k, first, cap, rfl, hcf, hc⟩ := h
  exact ⟨k, first, cap, rfl, hcf, fun w'' h' => hc w'' (ho.trans h')⟩

set_option maxHeartbeats 400000 in
theorem c17 (b : Nat) (n : Int) (w : World) (hc : w.cell? ⟨b, 0, none⟩ = some (.int .i64 n)) :
    Calls Try.prog 17 #[.pointer (some ⟨b, 0, none⟩)] w fun e w' => Pn n e ∧ Below w.heap.size w w' := by
  go_enter Try.func17, Try.ntmps17
  go_wp2
  exact ⟨rfl, ⟨[], rfl, rfl⟩, Below.refl _ _⟩

set_option maxHeartbeats 400000 in
theorem c18 (F b : Nat) (n : Int) (fv : Value) (w : World) (hc : w.cell? ⟨b, 0, none⟩ = some fv) (hp : Pan F n fv w) :
    Calls Try.prog 18 #[.pointer (some ⟨b, 0, none⟩)] w fun e w' => Pn n e ∧ Below w.heap.size w w' := by
  obtain ⟨k, first, cap, rfl, hcf, hk⟩ := hp
  have HF := Lib.hid hcf
  have HK := Lib.hid hk
  clear hcf hk
  go_enter Try.func18, Try.ntmps18
  go_wp2_with fail
  refine (in_passed ⟨#[120]⟩ k first cap w n HF.out ?_).mono ?_
  · have := HK.out (pre2 w) (Off.of_below (below_pre2 w))
    rw [pre2_size] at this
    exact this
  rintro e w' ⟨⟨older, rfl, ho⟩, hb⟩
  exact ⟨rfl, ⟨older, rfl, ho⟩, hb⟩

set_option maxHeartbeats 400000 in
theorem c20 (F b : Nat) (n : Int) (fv : Value) (w : World) (hc : w.cell? ⟨b, 0, none⟩ = some fv) (hp : Pan F n fv w) :
    Calls Try.prog 20 #[.pointer (some ⟨b, 0, none⟩)] w fun e w' => Pn n e ∧ Below w.heap.size w w' := by
  obtain ⟨k, first, cap, rfl, hcf, hk⟩ := hp
  have HF := Lib.hid hcf
  have HK := Lib.hid hk
  clear hcf hk
  go_enter Try.func20, Try.ntmps20
  go_wp2_with fail
  refine (try_passed k first cap w n HF.out ?_).mono ?_
  · have := HK.out (pre2 w) (Off.of_below (below_pre2 w))
    rw [pre2_size] at this
    exact this
  rintro e w' ⟨⟨older, rfl, ho⟩, hb⟩
  exact ⟨rfl, ⟨older, rfl, ho⟩, hb⟩

theorem pan17 {F b : Nat} {n : Int} {w : World} (hb : b < w.heap.size) (hF : b ≠ F) (hc : w.cell? ⟨b, 0, none⟩ = some (.int .i64 n)) :
    Pan F n (.func (.func 17) #[] #[.pointer (some ⟨b, 0, none⟩)]) w :=
  ⟨17, #[], _, rfl, fun _ _ => rfl, fun w' ho => c17 b n w' (by rw [ho.cell hb hF]; exact hc)⟩

theorem pan18 {F b : Nat} {n : Int} {fv : Value} {w : World} (hb : b < w.heap.size) (hF : b ≠ F) (hc : w.cell? ⟨b, 0, none⟩ = some fv) (hp : Pan F n fv w) :
    Pan F n (.func (.func 18) #[] #[.pointer (some ⟨b, 0, none⟩)]) w :=
  ⟨18, #[], _, rfl, fun _ _ => rfl, fun w' ho => c18 F b n fv w' (by rw [ho.cell hb hF]; exact hc) (hp.later ho)⟩

theorem pan20 {F b : Nat} {n : Int} {fv : Value} {w : World} (hb : b < w.heap.size) (hF : b ≠ F) (hc : w.cell? ⟨b, 0, none⟩ = some fv) (hp : Pan F n fv w) :
    Pan F n (.func (.func 20) #[] #[.pointer (some ⟨b, 0, none⟩)]) w :=
  ⟨20, #[], _, rfl, fun _ _ => rfl, fun w' ho => c20 F b n fv w' (by rw [ho.cell hb hF]; exact hc) (hp.later ho)⟩

set_option maxHeartbeats 400000 in
theorem c22 (b : Nat) (n : Int) (older : List PanicEntry) (w : World) (h : Two b w) :
    CallsD Try.prog 22 #[.pointer (some ⟨b, 0, none⟩), .pointer (some ⟨b + 1, 0, none⟩)] (.panicking ({ v := .iface 3 (.int .i64 n), recovered := false } :: older)) w fun e u' w' =>
      e = .returned (.tuple #[]) ∧ u' = .panicking ({ v := .iface 3 (.int .i64 n), recovered := true } :: older) ∧ fin2 b w (.int .i64 n) true = w' := by
  obtain ⟨⟨v1, c1⟩, f1, ⟨v2, c2⟩, f2⟩ := h
  have k1 := td3
  refine callsD_of_wpS Try.func22 rfl fun c₀ cs hu => ?_
  apply wpS_region
  simp [wpOpsS, go_sem, recoverD, hu, Try.ntmps22, k1, f1, f2, c1, c2]
  exact ⟨rfl, _, rfl, .tuple #[], by simp [results, Try.results22], rfl, rfl, rfl⟩

set_option maxHeartbeats 400000 in
theorem c21 (F b : Nat) (n : Int) (fv : Value) (w : World) (hc : w.cell? ⟨F, 0, none⟩ = some fv) (hp : Pan F n fv w) (h : Two b w) (hb : b + 1 < w.heap.size) :
    Calls Try.prog 21 #[.pointer (some ⟨b, 0, none⟩), .pointer (some ⟨b + 1, 0, none⟩), .pointer (some ⟨F, 0, none⟩)] w fun e w' => e = .returned (.tuple #[]) ∧ ∃ w1, Below w.heap.size w w1 ∧ fin2 b w1 (.int .i64 n) true = w' := by
  obtain ⟨k, first, cap, rfl, hcf, hk⟩ := hp
  have hmf : ∀ (fn : Fn) (first cap : Array Value) (w : World), (Instr.makeFunc fn first cap).run Try.prog w = .ok (.func fn first cap) w := fun _ _ _ _ => rfl
  have HK := Lib.hid hk
  have H2 := Lib.hid h
  clear hk h
  go_enter_defers Try.func21, Try.ntmps21
  go_wp2_with fail
  refine (HK.out w (Off.of_below (Below.refl _ _))).mono ?_
  rintro e w1 ⟨⟨older, rfl, ho⟩, hbl⟩
  have h2 : Two b w1 := by
    obtain ⟨⟨v1, c1⟩, f1, ⟨v2, c2⟩, f2⟩ := H2.out
    exact ⟨⟨v1, by rw [hbl.cell (by show b < _; omega)]; exact c1⟩, by rw [hbl.frozen (by show b < _; omega)]; exact f1, ⟨v2, by rw [hbl.cell (by show b + 1 < _; omega)]; exact c2⟩, by rw [hbl.frozen (by show b + 1 < _; omega)]; exact f2⟩
  refine leaves_cons (f := 22) (args := #[.pointer (some ⟨b, 0, none⟩), .pointer (some ⟨b + 1, 0, none⟩)]) (by simp) (by simp [go_sem]) ?_
  refine (c22 b n older w1 h2).mono ?_
  rintro e u' w'' ⟨rfl, rfl, rfl⟩
  simp [Leaves, settle, results, Try.results21, go_sem, ho]
  exact ⟨w1, hbl, rfl⟩

theorem dep (x : Int) : ∃ d : Nat, wrap64 ((IntKind.u64.wrap x).tmod 20) = (d : Int) ∧ d < 20 := by
  have h0 := wrap_u64_nonneg x
  rw [Int.tmod_eq_emod_of_nonneg h0]
  generalize IntKind.u64.wrap x = y at h0 ⊢
  refine ⟨(y % 20).toNat, ?_, ?_⟩
  · rw [IntWalk.wrap64_in _ (by omega)]; omega
  · omega

structure PRel (n : Int) (F : Nat) (w : World) (fv : Value) (wr : World) : Prop where
  below : Below w.heap.size w wr
  size : F < wr.heap.size
  old : w.heap.size < F
  num : wr.cell? ⟨w.heap.size, 0, none⟩ = some (.int .i64 n)
  free : wr.frozen? ⟨F, 0, none⟩ = false
  cell : wr.cell? ⟨F, 0, none⟩ = some fv
  pan : Pan F n fv wr

theorem PRel.step {n : Int} {F : Nat} {w wr : World} {fv : Value} (h : PRel n F w fv wr) (k : Nat) (hk : k = 18 ∨ k = 20) :
    PRel n F w (.func (.func k) #[] #[.pointer (some ⟨wr.heap.size, 0, none⟩)]) ((wr.setCell ⟨F, 0, none⟩ (.func (.func k) #[] #[.pointer (some ⟨wr.heap.size, 0, none⟩)])).alloc (.cells #[fv] 1)) := by
  have hs := h.size
  have ho := h.old
  generalize hv : (Value.func (.func k) #[] #[.pointer (some ⟨wr.heap.size, 0, none⟩)]) = v
  have hz : (wr.setCell ⟨F, 0, none⟩ v).heap.size = wr.heap.size := by simp [World.setCell]
  have hoff : Off F wr ((wr.setCell ⟨F, 0, none⟩ v).alloc (.cells #[fv] 1)) :=
    ⟨by simp [World.setCell], fun i hi hF => by rw [Below.heap_alloc _ _ _ (by rw [hz]; exact hi), Below.heap_setCell _ _ _ _ hF]⟩
  have hg : ((wr.setCell ⟨F, 0, none⟩ v).alloc (.cells #[fv] 1)).cell? ⟨wr.heap.size, 0, none⟩ = some fv := by
    rw [← hz]; simp [go_sem]
  refine ⟨?_, ?_, ho, ?_, ?_, ?_, ?_⟩
  · exact (h.below.setCell (by show w.heap.size ≤ F; omega) _).alloc (by rw [hz]; have := h.below.size; omega) _
  · simp [World.setCell]; omega
  · rw [hoff.cell (by omega) (by omega)]; exact h.num
  · rw [World.frozen?_alloc_old _ _ _ (by show F ≠ _; rw [hz]; omega), World.frozen?_setCell]; exact h.free
  · rw [World.cell?_alloc_old _ _ _ (by show F ≠ _; rw [hz]; omega)]
    exact World.cell?_setCell_same _ _ _ h.cell
  · subst hv
    rcases hk with rfl | rfl
    · exact pan18 (by simp [World.setCell]) (by omega) hg (h.pan.later hoff)
    · exact pan20 (by simp [World.setCell]) (by omega) hg (h.pan.later hoff)

theorem two_new (w : World) (x y : Value) (t u : TypeId) : Two w.heap.size ((w.alloc (.cells #[x] t)).alloc (.cells #[y] u)) := by
  refine ⟨⟨x, ?_⟩, ?_, ⟨y, ?_⟩, ?_⟩ <;> simp [go_sem]

theorem PRel.last {n : Int} {F : Nat} {w wr w3 : World} {fv : Value} (h : PRel n F w fv wr) (hb : Below (wr.heap.size + 2) ((wr.alloc (.cells #[.int .i64 0] 3)).alloc (.cells #[.bool false] 4)) w3) :
    (fin2 wr.heap.size w3 (.int .i64 n) true).cell? ⟨wr.heap.size, 0, none⟩ = some (.int .i64 n) ∧ (fin2 wr.heap.size w3 (.int .i64 n) true).cell? ⟨wr.heap.size + 1, 0, none⟩ = some (.bool true) ∧
    (fin2 wr.heap.size w3 (.int .i64 n) true).cell? ⟨w.heap.size, 0, none⟩ = some (.int .i64 n) ∧ Below w.heap.size w (fin2 wr.heap.size w3 (.int .i64 n) true) := by
  have hs := h.size
  have ho := h.old
  have hz := h.below.size
  have hall : Below w.heap.size w w3 := ((h.below.alloc (by omega) _).alloc (by simp; omega) _).trans (hb.mono (by omega))
  have c0 : w3.cell? ⟨wr.heap.size, 0, none⟩ = some (.int .i64 0) := by rw [hb.cell (by show wr.heap.size < _; omega)]; simp [go_sem]
  have c1 : w3.cell? ⟨wr.heap.size + 1, 0, none⟩ = some (.bool false) := by rw [hb.cell (by show wr.heap.size + 1 < _; omega)]; simp [go_sem]
  have c2 : w3.cell? ⟨w.heap.size, 0, none⟩ = some (.int .i64 n) := by
    rw [hb.cell (by show w.heap.size < _; omega), World.cell?_alloc_old _ _ _ (by show w.heap.size ≠ _; simp; omega), World.cell?_alloc_old _ _ _ (by show w.heap.size ≠ _; omega)]; exact h.num
  refine ⟨?_, ?_, ?_, below_fin2 hall _ (by omega) _ _⟩
  · unfold fin2
    rw [World.cell?_setCell_other _ _ _ _ (by intro e; have := congrArg Addr.block e; simp at this)]
    exact World.cell?_setCell_same _ _ _ c0
  · unfold fin2
    exact World.cell?_setCell_same _ _ _ (u := .bool false) (by rw [World.cell?_setCell_other _ _ _ _ (by intro e; have := congrArg Addr.block e; simp at this)]; exact c1)
  · rw [cell_fin2 (by omega) (by omega)]; exact c2

set_option maxHeartbeats 1000000 in
theorem passes_any (n depth : Int) (kind : Bool) (w : World) :
    Calls Try.prog 5 #[.int .i64 n, .int .i64 depth, .bool kind] w fun e w' => e = .returned (.bool true) ∧ Below w.heap.size w w' := by
  have hmf : ∀ (fn : Fn) (first cap : Array Value) (w : World), (Instr.makeFunc fn first cap).run Try.prog w = .ok (.func fn first cap) w := fun _ _ _ _ => rfl
  go_enter Try.func5, Try.ntmps5
  go_wp2_with fail
  refine (alive_true _).mono ?_
  rintro e w1 ⟨rfl, hb⟩
  go_wp2_with fail
  have hsz : w.heap.size < w1.heap.size := by have := hb.size; simp at this; omega
  have hb' : Below w.heap.size w w1 := ((Below.refl _ _).alloc (Nat.le_refl _) _).trans (hb.mono (by simp))
  have hn0 : w1.cell? ⟨w.heap.size, 0, none⟩ = some (.int .i64 n) := by rw [hb.cell (by simp)]; simp [go_sem]
  obtain ⟨d, hd, hd20⟩ := dep depth
  rw [hd]
  clear hd hb
  go_loopw [20] (fun i wr => ∃ j : Nat, j ≤ d ∧ i = .int .i64 j ∧ ∃ fv, PRel n w1.heap.size w fv wr) (fun i _ => d - (intOf i).toNat)
  case atStart =>
    refine ⟨0, by omega, rfl, _, hb'.alloc (by omega) _, by simp, hsz, ?_, by simp [go_sem], by simp [go_sem]; rfl, ?_⟩
    · rw [World.cell?_alloc_old _ _ _ (by show w.heap.size ≠ _; omega)]; exact hn0
    · exact pan17 (by simp; omega) (by omega) (by rw [World.cell?_alloc_old _ _ _ (by show w.heap.size ≠ _; omega)]; exact hn0)
  case round =>
    obtain ⟨j, hj, rfl, fv, hp⟩ := hrel
    clear hn0 hb'
    by_cases hlt : j < d
    · have hst := hp.step
      have hc := hp.cell
      have hf := hp.free
      have hs := hp.size
      obtain ⟨k, first, cap, rfl, _⟩ := hp.pan
      have HST := Lib.hid hst
      clear hp hst
      go_wp2_with fail
      · go_roundw
        case rel => exact ⟨j + 1, by omega, by go_num, _, HST.out 18 (.inl rfl)⟩
        case measure => simp [intOf]; omega
      · go_roundw
        case rel => exact ⟨j + 1, by omega, by go_num, _, HST.out 20 (.inr rfl)⟩
        case measure => simp [intOf]; omega
    · have HP := Lib.hid hp
      clear hp
      go_wp2_with fail
      refine (c21 w1.heap.size wr.heap.size n fv _ ?_ ?_ (two_new wr _ _ _ _) (by simp)).mono ?_
      · have := HP.out.size
        rw [World.cell?_alloc_old _ _ _ (by show w1.heap.size ≠ _; simp; omega), World.cell?_alloc_old _ _ _ (by show w1.heap.size ≠ _; omega)]
        exact HP.out.cell
      · exact HP.out.pan.later (Off.of_below (((Below.refl _ _).alloc (Nat.le_refl _) _).alloc (by simp) _))
      rintro e w' ⟨rfl, w3, hb3, rfl⟩
      obtain ⟨q1, q2, q3, q4⟩ := HP.out.last (by simpa using hb3)
      generalize fin2 wr.heap.size w3 (.int .i64 n) true = w4 at q1 q2 q3 q4 ⊢
      have HQ := Lib.hid q4
      clear q4 HP hb3
      go_wp2_with fail
      go_ret
      exact ⟨rfl, HQ.out⟩

end Go.Proofs.Ytlecghbhoecedaa
