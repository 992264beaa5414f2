/- What a play answers; Try and In around it. -/
import Derived.Test.YtmjpdncgapbfpaaRun
namespace Go.Proofs.Ytmjpdncgapbfpaa
open Go.RowKit

theorem run_all : ∀ f, RunSaid f := fun f => Nat.strongRecOn f fun n ih => run_step n ih

/-- How a play ends: at the end of what was open, or with a fault. -/
def Out (ops : List Sc) (r : Res) (w : World) (i' : Nat) (nv' : Value) (e : Ending) (w' : World) : Prop :=
  match r.2.2 with
  | none => e = .returned (.tuple #[]) ∧ ops.drop i' = r.2.1
  | some x => ∃ b, e = .panicked (flt ⟨b, 0, none⟩) ∧ w.heap.size ≤ b ∧ b < w'.heap.size ∧ some b ≠ nv'.ownBlock ∧ w'.cell? ⟨b, 0, none⟩ = some (.int .i64 x.1) ∧ w'.cell? ⟨b, 1, none⟩ = some (.string x.2)

def Played (B p : Nat) (A : Option Addr) (n c : Nat) (ops : List Sc) (nv : Value) (N : List Nt) (w : World) (r : Res) (e : Ending) (w' : World) : Prop :=
  ∃ (i' : Nat) (nv' : Value), i' ≤ n ∧ PS w' B p A n c ops i' nv' (N ++ r.1) ∧ Fr p nv w w' ∧ Moved nv nv' w ∧ Out ops r w i' nv' e w'

def PlaySaid (f : Nat) : Prop := ∀ (B p : Nat) (A : Option Addr) (n c : Nat) (ops : List Sc) (i : Nat) (nv : Value) (N : List Nt) (w : World), PS w B p A n c ops i nv N → n ≤ 60 → i ≤ n → Kinds ops → Small ops → (ops.drop i).length ≤ f → N.length + (ops.drop i).length ≤ 60 →
  Calls Try.prog 10 #[.pointer (some ⟨p, 0, none⟩)] w (Played B p A n c ops nv N w (rn f (ops.drop i)))

section
variable {w : World} {B p : Nat} {A : Option Addr} {n c : Nat} {ops : List Sc} {i : Nat} {nv : Value} {N : List Nt}

theorem PS.later {w' : World} (h : PS w B p A n c ops i nv N) (hb : Below w.heap.size w w') : PS w' B p A n c ops i nv N := by
  have hp : p < w.heap.size := Nat.lt_of_lt_of_le h.lt h.hB
  refine ⟨(hb.cell (p := ⟨p, 0, none⟩) hp).trans h.cO, (hb.cell (p := ⟨p, 1, none⟩) hp).trans h.cA, (hb.cell (p := ⟨p, 2, none⟩) hp).trans h.cN, (hb.frozen (p := ⟨p, 1, none⟩) hp).trans h.f1, (hb.frozen (p := ⟨p, 2, none⟩) hp).trans h.f2, h.own.later hb, ?_, h.lt, Nat.le_trans h.hB hb.size, h.ne⟩
  exact h.rd.below fun q hq => hb.cell (Nat.lt_of_lt_of_le hq h.hB)

theorem OwnN.far {v : Value} {l : List Nt} (h : OwnN w B v l) {a : Addr} (ha : some a.block ≠ v.ownBlock) (u : Value) : OwnN (w.setCell a u) B v l := by
  refine ⟨h.1, ?_⟩
  rcases h.2 with h0 | ⟨g, cap, cur, hv, hb, hg, rest⟩
  · exact .inl h0
  · refine .inr ⟨g, cap, cur, hv, hb, ?_, rest⟩
    rw [Below.heap_setCell w a u g (by intro e; apply ha; rw [hv, e]; rfl)]
    exact hg

theorem PS.far (h : PS w B p A n c ops i nv N) {k o : Nat} (hk : B ≤ k) (hn : some k ≠ nv.ownBlock) (u : Value) : PS (w.setCell ⟨k, o, none⟩ u) B p A n c ops i nv N := by
  have hlt := h.lt
  have hne : ∀ j, (⟨p, j, none⟩ : Addr) ≠ ⟨k, o, none⟩ := fun j e => by have := congrArg Addr.block e; simp at this; omega
  have hne' : ∀ j, (⟨k, o, none⟩ : Addr) ≠ ⟨p, j, none⟩ := fun j e => (hne j e.symm)
  refine ⟨?_, ?_, ?_, by rw [World.frozen?_setCell]; exact h.f1, by rw [World.frozen?_setCell]; exact h.f2, h.own.far hn u, ?_, h.lt, by simpa [World.setCell] using h.hB, h.ne⟩
  · rw [World.cell?_setCell_other _ _ _ _ (by first | exact hne 0 | exact hne' 0)]; exact h.cO
  · rw [World.cell?_setCell_other _ _ _ _ (by first | exact hne 1 | exact hne' 1)]; exact h.cA
  · rw [World.cell?_setCell_other _ _ _ _ (by first | exact hne 2 | exact hne' 2)]; exact h.cN
  · exact h.rd.below fun q hq => World.cell?_setCell_other _ _ _ _ (by first | (intro e; subst e; simp at hq; omega) | (intro e; rw [← e] at hq; simp at hq; omega))

theorem PS.fin2 (h : PS w B p A n c ops i nv N) {k : Nat} (hk : B ≤ k) (h1 : some k ≠ nv.ownBlock) (h2 : some (k + 1) ≠ nv.ownBlock) (x : Value) (y : Bool) : PS (fin2 k w x y) B p A n c ops i nv N :=
  (h.far hk h1 x).far (by omega) h2 _

theorem Fr.fin2 {a : World} (h : Fr p nv a w) {k : Nat} (hk : a.heap.size ≤ k) (x : Value) (y : Bool) : Fr p nv a (fin2 k w x y) :=
  ⟨h.os, h.tape, h.output, by rw [size_fin2]; exact h.size, fun j hj hp hn => by
    unfold Go.Proofs.Ytmjpdncgapbfpaa.fin2
    rw [Below.heap_setCell _ _ _ j (by show j ≠ k + 1; omega), Below.heap_setCell _ _ _ j (by show j ≠ k; omega)]
    exact h.block j hj hp hn⟩

/-- The two named results of catch lie unharmed behind a play. -/
theorem two_play {w1 : World} {nv' : Value} (hs : B ≤ w.heap.size) (hp : p < B) (ho : ∀ k, nv.ownBlock = some k → k < w.heap.size) (hf : Fr p nv (pre2 w) w1) (hm : Moved nv nv' (pre2 w)) :
    Two w.heap.size w1 ∧ some w.heap.size ≠ nv'.ownBlock ∧ some (w.heap.size + 1) ≠ nv'.ownBlock := by
  have hz := pre2_size w
  have n1 : some w.heap.size ≠ nv.ownBlock := fun e => by have := ho _ e.symm; omega
  have n2 : some (w.heap.size + 1) ≠ nv.ownBlock := fun e => by have := ho _ e.symm; omega
  refine ⟨⟨⟨.pointer none, ?_⟩, ?_, ⟨.bool false, ?_⟩, ?_⟩, ?_, ?_⟩
  · rw [hf.cell (by omega) (by omega) n1]; simp [pre2, go_sem]
  · rw [hf.frozen (by omega) (by omega) n1]; simp [pre2, go_sem]
  · rw [hf.cell (by omega) (by omega) n2]; simp [pre2, go_sem]
  · rw [hf.frozen (by omega) (by omega) n2]; simp [pre2, go_sem]
  · rcases hm with e | ⟨b, e, hb⟩
    · rw [e]; exact n1
    · rw [e, hz] at *; intro h; injection h with h; omega
  · rcases hm with e | ⟨b, e, hb⟩
    · rw [e]; exact n2
    · rw [e, hz] at *; intro h; injection h with h; omega
end

def TryPlayed (B p : Nat) (A : Option Addr) (n c : Nat) (ops : List Sc) (nv : Value) (N : List Nt) (w : World) (r : Res) (e : Ending) (w' : World) : Prop :=
  ∃ (i' : Nat) (nv' : Value), i' ≤ n ∧ PS w' B p A n c ops i' nv' (N ++ r.1) ∧ Fr p nv w w' ∧ Moved nv nv' w ∧
    match r.2.2 with
    | none => e = .returned .nilIface ∧ ops.drop i' = r.2.1
    | some x => ∃ b, e = .returned (.iface 42 (.pointer (some ⟨b, 0, none⟩))) ∧ w.heap.size ≤ b ∧ b < w'.heap.size ∧ some b ≠ nv'.ownBlock ∧ w'.cell? ⟨b, 0, none⟩ = some (.int .i64 x.1) ∧ w'.cell? ⟨b, 1, none⟩ = some (.string x.2)

theorem fr_pre2 {p : Nat} {nv : Value} {w w1 : World} (h : Fr p nv (pre2 w) w1) : Fr p nv w w1 := by
  have hb := below_pre2 w
  have hz := pre2_size w
  exact ⟨h.os, h.tape, h.output, by have := h.size; omega, fun k hk hp hn => (h.block k (by omega) hp hn).trans (hb.block k hk)⟩
theorem moved_pre2 {nv nv' : Value} {w : World} (h : Moved nv nv' (pre2 w)) : Moved nv nv' w := by
  have hz := pre2_size w
  rcases h with e | ⟨b, e, hb⟩
  · exact .inl e
  · exact .inr ⟨b, e, by omega⟩

theorem try_play {f : Nat} (h : PlaySaid f) {B p : Nat} {A : Option Addr} {n c : Nat} {ops : List Sc} {i : Nat} {nv : Value} {N : List Nt} {w : World} (hp : PS w B p A n c ops i nv N) (hn : n ≤ 60) (hi : i ≤ n) (hk : Kinds ops) (hs : Small ops) (hf : (ops.drop i).length ≤ f) (hl : N.length + (ops.drop i).length ≤ 60) :
    Calls Try.prog 9 #[.func (.func 10) #[.pointer (some ⟨p, 0, none⟩)] #[]] w (TryPlayed B p A n c ops nv N w (rn f (ops.drop i))) := by
  have hz := pre2_size w
  refine try_cps 10 #[.pointer (some ⟨p, 0, none⟩)] #[] w _ _ (fun _ _ => rfl) (h B p A n c ops i nv N (pre2 w) (hp.later (below_pre2 w)) hn hi hk hs hf hl) ?_
  rintro e w1 ⟨i', nv', hi', hP, hF, hM, hO⟩
  obtain ⟨h2, n1, n2⟩ := two_play (w := w) (w1 := w1) hp.hB hp.lt (fun k hk => (hp.own.lt hk).2) hF hM
  refine ⟨h2, ?_⟩
  unfold Out at hO
  cases hr : (rn f (ops.drop i)).2.2 with
  | none =>
    rw [hr] at hO
    obtain ⟨rfl, hd⟩ := hO
    refine .inl ⟨_, rfl, i', nv', hi', hP.fin2 hp.hB n1 n2 _ _, (fr_pre2 hF).fin2 (Nat.le_refl _) _ _, moved_pre2 hM, ?_⟩
    rw [hr]
    exact ⟨rfl, hd⟩
  | some x =>
    rw [hr] at hO
    obtain ⟨b, rfl, hb1, hb2, hb3, hc1, hc2⟩ := hO
    rw [hz] at hb1
    refine .inr (.inl ⟨_, [], rfl, rfl, i', nv', hi', hP.fin2 hp.hB n1 n2 _ _, (fr_pre2 hF).fin2 (Nat.le_refl _) _ _, moved_pre2 hM, ?_⟩)
    rw [hr]
    refine ⟨b, rfl, by omega, by rw [size_fin2]; exact hb2, hb3, ?_, ?_⟩
    · rw [cell_fin2 (by omega) (by omega)]; exact hc1
    · rw [cell_fin2 (by omega) (by omega)]; exact hc2

def InPlayed (B p : Nat) (A : Option Addr) (n c : Nat) (ops : List Sc) (nv : Value) (N : List Nt) (t : ByteArray) (w : World) (r : Res) (e : Ending) (w' : World) : Prop :=
  ∃ (i' : Nat) (nv' : Value), i' ≤ n ∧ PS w' B p A n c ops i' nv' (N ++ r.1) ∧ Fr p nv w w' ∧ Moved nv nv' w ∧
    match r.2.2 with
    | none => e = .returned (.tuple #[]) ∧ ops.drop i' = r.2.1
    | some x => ∃ b, e = .panicked (flt ⟨b, 0, none⟩) ∧ w.heap.size ≤ b ∧ b < w'.heap.size ∧ some b ≠ nv'.ownBlock ∧ w'.cell? ⟨b, 0, none⟩ = some (.int .i64 x.1) ∧ w'.cell? ⟨b, 1, none⟩ = some (.string (ins t x.2))

theorem in_play {f : Nat} (h : PlaySaid f) (t : ByteArray) {B p : Nat} {A : Option Addr} {n c : Nat} {ops : List Sc} {i : Nat} {nv : Value} {N : List Nt} {w : World} (hp : PS w B p A n c ops i nv N) (hn : n ≤ 60) (hi : i ≤ n) (hk : Kinds ops) (hs : Small ops) (hf : (ops.drop i).length ≤ f) (hl : N.length + (ops.drop i).length ≤ 60) (ht : t.size ≤ 60) :
    Calls Try.prog 19 #[.string t, .func (.func 10) #[.pointer (some ⟨p, 0, none⟩)] #[]] w (InPlayed B p A n c ops nv N t w (rn f (ops.drop i))) := by
  have hz := pre2_size w
  have hsz := rn_size f (ops.drop i) (fun z hz => hk z (List.mem_of_mem_drop hz)) (fun z hz => hs z (List.mem_of_mem_drop hz)) hf
  refine in_cps t 10 #[.pointer (some ⟨p, 0, none⟩)] #[] w _ _ (fun _ _ => rfl) (h B p A n c ops i nv N (pre2 w) (hp.later (below_pre2 w)) hn hi hk hs hf hl) ?_
  rintro e w1 ⟨i', nv', hi', hP, hF, hM, hO⟩
  obtain ⟨h2, n1, n2⟩ := two_play (w := w) (w1 := w1) hp.hB hp.lt (fun k hk => (hp.own.lt hk).2) hF hM
  refine ⟨h2, ?_⟩
  unfold Out at hO
  cases hr : (rn f (ops.drop i)).2.2 with
  | none =>
    rw [hr] at hO
    obtain ⟨rfl, hd⟩ := hO
    refine .inl ⟨_, rfl, i', nv', hi', hP.fin2 hp.hB n1 n2 _ _, (fr_pre2 hF).fin2 (Nat.le_refl _) _ _, moved_pre2 hM, ?_⟩
    rw [hr]
    exact ⟨rfl, hd⟩
  | some x =>
    rw [hr] at hO
    obtain ⟨b, rfl, hb1, hb2, hb3, hc1, hc2⟩ := hO
    rw [hz] at hb1
    have hx := hsz.1 x hr
    have hP2 := hP.fin2 hp.hB n1 n2 (.pointer (some ⟨b, 0, none⟩)) true
    have hF2 := (fr_pre2 hF).fin2 (Nat.le_refl _) (.pointer (some ⟨b, 0, none⟩)) true
    have hz2 : (fin2 w.heap.size w1 (.pointer (some ⟨b, 0, none⟩)) true).heap.size = w1.heap.size := size_fin2
    refine .inr (.inl ⟨b, 0, x.1, x.2, [], rfl, rfl, by omega, by omega, hc1, hc2, by omega, i', nv', hi', ?_, ?_, moved_pre2 hM, ?_⟩)
    · exact hP2.later ((Below.refl _ _).alloc (Nat.le_refl _) _)
    · refine ⟨hF2.os, hF2.tape, hF2.output, ?_, fun k hk hpk hnk => ?_⟩
      · have := hF2.size; simp; omega
      · rw [Below.heap_alloc _ _ k (Nat.lt_of_lt_of_le hk hF2.size)]; exact hF2.block k hk hpk hnk
    · rw [hr]
      refine ⟨_, rfl, ?_, by simp [hz2], ?_, ?_, ?_⟩
      · have := hF2.size; omega
      · intro e; have := (hP2.own.lt e.symm).2; omega
      · rw [← hz2]; simp [go_sem]
      · rw [← hz2]; simp [go_sem]; rfl

end Go.Proofs.Ytmjpdncgapbfpaa
