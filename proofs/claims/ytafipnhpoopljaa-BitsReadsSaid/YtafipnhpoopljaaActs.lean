/- Rows of acts that the law made itself; what a writer's steps leave alone. -/
import Derived.Test.YtafipnhpoopljaaWmt
import Derived.Test.YtafipnhpoopljaaOpen
namespace Go.Proofs.Ytafipnhpoopljaa
open Go.RowKit

def actsC : List Raw → List Value
  | [] => []
  | o :: r => actC o ++ actsC r
theorem actsC_append (a b : List Raw) : actsC (a ++ b) = actsC a ++ actsC b := by
  induction a with
  | nil => rfl
  | cons x a ih => simp [actsC, ih]
theorem actsC_length (a : List Raw) : (actsC a).length = a.length * 4 := by
  induction a with
  | nil => rfl
  | cons x a ih => simp [actsC, actC, ih]; omega
theorem actsC_one (l : List Raw) : ∀ u ∈ actsC l, u.oneCell' = true := by
  induction l with
  | nil => intro u hu; cases hu
  | cons x a ih =>
    intro u hu
    rcases List.mem_append.1 hu with h | h
    · simp only [actC, List.mem_cons, List.not_mem_nil, or_false] at h
      rcases h with rfl | rfl | rfl | rfl <;> rfl
    · exact ih u h
theorem actsC_at : ∀ (l : List Raw) (i : Nat) (x : Raw), l[i]? = some x → ∀ j u, (actC x)[j]? = some u → (actsC l)[i * 4 + j]? = some u
  | y :: r, 0, x, h, j, u, hu => by
    injection h with h
    subst h
    rw [actsC, List.getElem?_append_left (by have := (List.getElem?_eq_some_iff.1 hu).1; simpa using this)]
    simpa using hu
  | y :: r, i + 1, x, h, j, u, hu => by
    rw [actsC, List.getElem?_append_right (by simp [actC]; omega)]
    have := actsC_at r i x (by simpa using h) j u hu
    rw [show (i + 1) * 4 + j - (actC y).length = i * 4 + j by simp [actC]; omega]
    exact this

theorem info32 : (Try.prog.info? 32).map (fun i => (i.zero, i.size, i.bytes)) = some (some (.agg #[.int .i64 0, .int .i64 0, .int .u32 0, .slice none 0 0]), 4, 48) := by kernel_rfl

def OwnR (w : World) (B : Nat) (v : Value) (l : List Raw) : Prop := w.ownsRow B 32 4 v l.length (actsC l)

theorem OwnR.lit0 (w : World) (B : Nat) (hB : B ≤ w.heap.size) : OwnR (w.alloc (.cells #[] 32)) B (.slice (some ⟨w.heap.size, 0, none⟩) 0 0) [] :=
  ⟨rfl, .inr ⟨w.heap.size, 0, #[], rfl, hB, heap_alloc_new w _, Nat.le_refl _, by unfold maxLen; omega, rfl, rfl⟩⟩

theorem OwnR.rd {w : World} {B : Nat} {v : Value} {l : List Raw} (h : OwnR w B v l) : ∃ A c, v = .slice A l.length c ∧ RdA w w.heap.size A l.length l := by
  rcases h.2 with ⟨hv, hn⟩ | ⟨g, cap, cur, hv, hb, hg, rest⟩
  · exact ⟨none, 0, by rw [hv, hn], ⟨rfl, fun h0 => by omega⟩⟩
  · have hlt := (Array.getElem?_eq_some_iff.1 hg).1
    refine ⟨_, _, hv, ⟨rfl, fun _ => ⟨g, 0, rfl, hlt, fun i x hx j u hu => ?_⟩⟩⟩
    have := World.ownsRow.cells h (g := g) (by rw [hv]; rfl) (i * 4 + j) u (actsC_at l i x hx j u hu)
    rw [Go.WideShapes.add_plain] at this
    exact this

theorem pushR {ops : Array Oper} {rest : List Oper} {o : Oper} {a : Act} {Q : Exit → Act → World → Prop} (w0 : World) (H : Nat) (hH : w0.heap.size = H) (hgd : o.guard = none) (s x : Operand)
    (ho : o.op = .call { callee := .builtin .append, args := #[s, x], argTypes := #[23, 23] })
    (B : Nat) (v : Value) (l : List Raw) (b : Raw) (cs : Array Value) (hs : a.eval s = v) (hx : a.eval x = .slice (some ⟨H, 0, none⟩) 1 1)
    (hown : OwnR w0 B v l) (hcs : cs.toList = actC b) (hB : B ≤ w0.heap.size) (hl : l.length ≤ 10000)
    (h : ∀ v' w', OwnR w' B v' (l ++ [b]) → w0.grownBy w' v.ownBlock → wpList Try.prog ops Q rest (a.put o.dst v') w') :
    wpList Try.prog ops Q (o :: rest) a (w0.alloc (.cells cs 32)) := by
  subst hH
  obtain ⟨i0, hi, hz0, hz1, hz2⟩ := info_parts info32
  have hc1 : actC b = actsC [b] := by simp [actsC]
  refine wpList_append_own_at _ hgd s x 23 ho B 32 i0 _ 4 48 Try.underlying23 hi hz0 hz1 hz2 rfl (by decide) v l.length (actsC l) hs (World.ownsRow.alloc hown _)
    ⟨w0.heap.size, 0, none⟩ 1 1 (actsC [b]) hx (by rw [actsC_length]; rfl) ?_ (actsC_one _) (by unfold maxLen; omega) (by omega) (by simp; omega) ?_
  · rw [← hc1, ← hcs]; exact cells_new w0 cs 32
  · intro v' w' h1 h2 _ _
    refine h v' w' ?_ ((World.grownBy_alloc w0 _ _).trans h2)
    unfold OwnR
    rw [List.length_append, actsC_append]
    exact h1

/-- The block of a row that the call made holds cells of its kind. -/
theorem own_kind {w : World} {B : Nat} {e : TypeId} {sz : Nat} {v : Value} {n : Nat} {xs : List Value} (h : w.ownsRow B e sz v n xs) {k : Nat} (hk : v.ownBlock = some k) : ∃ cur, w.heap[k]? = some (.cells cur e (0, 0)) := by
  rcases h.2 with ⟨rfl, _⟩ | ⟨g, cap, cur, rfl, _, hh, _⟩
  · cases hk
  · have : g = k := by simpa [Value.ownBlock] using hk
    subst this
    exact ⟨cur, hh⟩
theorem own_apart {w : World} {B B' : Nat} {e e' : TypeId} {sz sz' : Nat} {v v' : Value} {n n' : Nat} {xs xs' : List Value} (h : w.ownsRow B e sz v n xs) (h' : w.ownsRow B' e' sz' v' n' xs') (he : e ≠ e') : v.ownBlock = none ∨ v.ownBlock ≠ v'.ownBlock := by
  cases hv : v.ownBlock with
  | none => exact .inl rfl
  | some k =>
    refine .inr fun hk => ?_
    obtain ⟨c1, h1⟩ := own_kind h hv
    obtain ⟨c2, h2⟩ := own_kind h' hk.symm
    rw [h1] at h2
    injection h2 with h2
    injection h2 with _ h3
    exact he h3
theorem own_notRow {w : World} {B : Nat} {e t : TypeId} {sz : Nat} {v : Value} {n g : Nat} {xs : List Value} {cs : Array Value} (h : w.ownsRow B e sz v n xs) (hr : Row w g cs t) (he : e ≠ t) : v.ownBlock ≠ some g := fun hk => by
  obtain ⟨c1, h1⟩ := own_kind h hk
  unfold Row at hr
  rw [hr] at h1
  injection h1 with h1
  injection h1 with _ h3
  exact he h3.symm

theorem OwnR.st {w w' : World} {B B' g : Nat} {u v v' : Value} {D : List Raw} {t : List UInt8} {room : Nat} (h : OwnR w B u D) (hS : St w g v w' v') (hW : Wr w B' g v t room) : OwnR w' B u D := by
  have h1 := own_notRow h hW.row (by decide)
  have h2 := own_apart h hW.own (by decide)
  refine ⟨h.1, ?_⟩
  rcases h.2 with hn | ⟨k, cap, cur, rfl, hb, hgg, rest⟩
  · exact .inl hn
  · refine .inr ⟨k, cap, cur, rfl, hb, ?_, rest⟩
    rw [hS.block k (Array.getElem?_eq_some_iff.1 hgg).1 (fun e => h1 (by rw [← e]; rfl)) (fun e => by
      rcases h2 with h2 | h2
      · cases h2
      · exact h2 (by rw [e]; rfl))]
    exact hgg
theorem WM.pushed {w w' : World} {B B' g : Nat} {u v : Value} {D : List Raw} {m : List UInt8} (h : WM w B g v m) (hu : OwnR w B' u D) (hg : w.grownBy w' u.ownBlock) : WM w' B g v m :=
  h.kept hg (Ne.symm (own_notRow hu h.wr.row (by decide))) (own_apart h.wr.own hu (by decide))
theorem St.row {w w' : World} {B g H : Nat} {v v' : Value} {t : List UInt8} {room : Nat} {cs : Array Value} {ty : TypeId} (hS : St w g v w' v') (hW : Wr w B g v t room) (hr : Row w H cs ty) (h70 : ty ≠ 70) (h5 : ty ≠ 5) : Row w' H cs ty := by
  unfold Row
  rw [hS.block H hr.lt (fun e => ?_) (fun e => ?_)]
  · exact hr
  · subst e
    have h1 := hW.row
    unfold Row at hr h1
    rw [hr] at h1
    injection h1 with h1
    injection h1 with _ h3
    exact h70 h3
  · exact own_notRow hW.own hr (Ne.symm h5) e
end Go.Proofs.Ytafipnhpoopljaa
