/- Scripts of what stands within what, as lists: what is noted, where it ends, which fault goes out. No program is named here. -/
import Derived.Lib.Bytealg
namespace Go.Proofs.Ytmjpdncgapbfpaa

structure Sc where
  k : Nat
  c : Int
  t : ByteArray

structure Nt where
  tr : Bool
  tx : ByteArray
  c : Int
  w : ByteArray
  is : Bool

/-- What is behind the end of n that are open. -/
def skl : Nat → List Sc → List Sc
  | 0, l => l
  | _ + 1, [] => []
  | n + 1, o :: r => if o.k = 4 ∨ o.k = 5 then skl (n + 2) r else if o.k = 6 then skl n r else skl (n + 1) r

theorem skl_nil (n : Nat) : skl n [] = [] := by cases n <;> rfl

theorem skl_add : ∀ (l : List Sc) (a b : Nat), skl a (skl b l) = skl (a + b) l
  | [], a, b => by rw [skl_nil, skl_nil, skl_nil]
  | o :: r, a, 0 => by rw [skl]; rfl
  | o :: r, a, b + 1 => by
    rw [skl, show a + (b + 1) = (a + b) + 1 by omega, skl]
    split
    · rw [skl_add r a (b + 2)]; rfl
    · split
      · exact skl_add r a b
      · rw [skl_add r a (b + 1)]; rfl

theorem skl_le : ∀ (l : List Sc) (n : Nat), (skl n l).length ≤ l.length
  | [], n => by rw [skl_nil]; exact Nat.le_refl _
  | o :: r, 0 => by rw [skl]; exact Nat.le_refl _
  | o :: r, n + 1 => by
    rw [skl, List.length_cons]
    split
    · have := skl_le r (n + 2); omega
    · split
      · have := skl_le r n; omega
      · have := skl_le r (n + 1); omega

/-- skl's answer is an end of the list. -/
theorem skl_drop : ∀ (l : List Sc) (n : Nat), ∃ k, k ≤ l.length ∧ skl n l = l.drop k
  | [], n => ⟨0, by simp, by rw [skl_nil]; rfl⟩
  | o :: r, 0 => ⟨0, by simp, rfl⟩
  | o :: r, n + 1 => by
    rw [skl]
    split
    · obtain ⟨k, hk, h⟩ := skl_drop r (n + 2); exact ⟨k + 1, by simpa using hk, by simpa using h⟩
    · split
      · obtain ⟨k, hk, h⟩ := skl_drop r n; exact ⟨k + 1, by simpa using hk, by simpa using h⟩
      · obtain ⟨k, hk, h⟩ := skl_drop r (n + 1); exact ⟨k + 1, by simpa using hk, by simpa using h⟩

def mark (t : ByteArray) : Nt := ⟨false, t, 0, ⟨#[]⟩, false⟩
def caughtN : Option (Int × ByteArray) → Nt
  | none => ⟨true, ⟨#[]⟩, 0, ⟨#[]⟩, false⟩
  | some (c, w) => ⟨true, ⟨#[]⟩, c, w, true⟩
def ins (a b : ByteArray) : ByteArray := if b.toList.isEmpty then a else a ++ ⟨#[46]⟩ ++ b

abbrev Res := List Nt × List Sc × Option (Int × ByteArray)

def rn : Nat → List Sc → Res
  | 0, _ => ([], [], none)
  | _ + 1, [] => ([], [], none)
  | f + 1, o :: r =>
    if o.k = 0 then (mark o.t :: (rn f r).1, (rn f r).2)
    else if o.k = 1 ∨ o.k = 3 then ([], skl 1 r, some (o.c, o.t))
    else if o.k = 2 then rn f r
    else if o.k = 4 then ((rn f r).1 ++ caughtN (rn f r).2.2 :: (rn f (rn f r).2.1).1, (rn f (rn f r).2.1).2)
    else if o.k = 5 then
      match (rn f r).2.2 with
      | some x => ((rn f r).1, skl 1 (rn f r).2.1, some (x.1, ins o.t x.2))
      | none => ((rn f r).1 ++ (rn f (rn f r).2.1).1, (rn f (rn f r).2.1).2)
    else ([], r, none)

def Kinds (l : List Sc) : Prop := ∀ o ∈ l, o.k < 7
def Small (l : List Sc) : Prop := ∀ o ∈ l, o.t.size ≤ 60

theorem rn_rest : ∀ (f : Nat) (l : List Sc), Kinds l → l.length ≤ f → (rn f l).2.1 = skl 1 l
  | 0, l, _, h => by
    have : l = [] := List.eq_nil_of_length_eq_zero (by omega)
    subst this; rfl
  | f + 1, [], _, _ => rfl
  | f + 1, o :: r, hk, h => by
    have hr : Kinds r := fun x hx => hk x (List.mem_cons_of_mem _ hx)
    have ho := hk o List.mem_cons_self
    have ih := rn_rest f r hr (by simpa using h)
    have hle := skl_le r 1
    obtain ⟨j, _, hj⟩ := skl_drop r 1
    have ih2 : (rn f (skl 1 r)).2.1 = skl 1 (skl 1 r) := rn_rest f _ (fun x hx => hr x (by rw [hj] at hx; exact List.mem_of_mem_drop hx)) (by simp at h; omega)
    rw [rn, skl]
    by_cases h0 : o.k = 0
    · rw [if_pos h0, if_neg (by omega), if_neg (by omega)]; exact ih
    rw [if_neg h0]
    by_cases h1 : o.k = 1 ∨ o.k = 3
    · rw [if_pos h1, if_neg (by omega), if_neg (by omega)]
    rw [if_neg h1]
    by_cases h2 : o.k = 2
    · rw [if_pos h2, if_neg (by omega), if_neg (by omega)]; exact ih
    rw [if_neg h2]
    by_cases h4 : o.k = 4
    · rw [if_pos h4, if_pos (by omega)]
      show (rn f (rn f r).2.1).2.1 = _
      rw [ih, ih2, skl_add]
    rw [if_neg h4]
    by_cases h5 : o.k = 5
    · rw [if_pos h5, if_pos (by omega)]
      cases hx : (rn f r).2.2 with
      | some x =>
        show skl 1 (rn f r).2.1 = _
        rw [ih, skl_add]
      | none =>
        show (rn f (rn f r).2.1).2.1 = _
        rw [ih, ih2, skl_add]
    rw [if_neg h5, if_neg (by omega), if_pos (by omega), skl]

theorem ins_size (a b : ByteArray) : (ins a b).size ≤ a.size + b.size + 1 := by
  unfold ins
  split
  · omega
  · simp [ByteArray.size_append]; show _ + 1 + _ ≤ _; omega

theorem small_skl {l : List Sc} (h : Small l) (n : Nat) : Small (skl n l) := by
  obtain ⟨j, _, hj⟩ := skl_drop l n
  intro x hx
  rw [hj] at hx
  exact h x (List.mem_of_mem_drop hx)
theorem kinds_skl {l : List Sc} (h : Kinds l) (n : Nat) : Kinds (skl n l) := by
  obtain ⟨j, _, hj⟩ := skl_drop l n
  intro x hx
  rw [hj] at hx
  exact h x (List.mem_of_mem_drop hx)

/-- How long a fault's place may grow, and how many notes there may be. -/
theorem rn_size : ∀ (f : Nat) (l : List Sc), Kinds l → Small l → l.length ≤ f → (∀ x, (rn f l).2.2 = some x → x.2.size ≤ 61 * l.length) ∧ (rn f l).1.length + (rn f l).2.1.length ≤ l.length
  | 0, l, _, _, h => by simp [rn]
  | f + 1, [], _, _, _ => by simp [rn]
  | f + 1, o :: r, hk, hs, h => by
    have hr : Kinds r := fun x hx => hk x (List.mem_cons_of_mem _ hx)
    have hsr : Small r := fun x hx => hs x (List.mem_cons_of_mem _ hx)
    have ho := hk o List.mem_cons_self
    have hos := hs o List.mem_cons_self
    have hl : r.length ≤ f := by simpa using h
    have ih := rn_size f r hr hsr hl
    have hrest := rn_rest f r hr hl
    have hle := skl_le r 1
    have ih2 := rn_size f (skl 1 r) (kinds_skl hr 1) (small_skl hsr 1) (by omega)
    have h3 := skl_le (skl 1 r) 1
    rw [hrest] at ih
    rw [List.length_cons]
    rw [rn]
    by_cases h0 : o.k = 0
    · rw [if_pos h0]
      refine ⟨fun x hx => by have := ih.1 x hx; omega, ?_⟩
      show (_ :: (rn f r).1).length + (rn f r).2.1.length ≤ _
      rw [hrest, List.length_cons]; have := ih.2; omega
    rw [if_neg h0]
    by_cases h1 : o.k = 1 ∨ o.k = 3
    · rw [if_pos h1]
      refine ⟨fun x hx => ?_, ?_⟩
      · injection hx with hx; rw [← hx]; show o.t.size ≤ _; omega
      · show 0 + (skl 1 r).length ≤ _; omega
    rw [if_neg h1]
    by_cases h2 : o.k = 2
    · rw [if_pos h2]
      exact ⟨fun x hx => by have := ih.1 x hx; omega, by rw [hrest]; have := ih.2; omega⟩
    rw [if_neg h2]
    by_cases h4 : o.k = 4
    · rw [if_pos h4, hrest]
      refine ⟨fun x hx => by have := ih2.1 x hx; omega, ?_⟩
      show ((rn f r).1 ++ _ :: (rn f (skl 1 r)).1).length + (rn f (skl 1 r)).2.1.length ≤ _
      rw [List.length_append, List.length_cons]; have := ih.2; have := ih2.2; omega
    rw [if_neg h4]
    by_cases h5 : o.k = 5
    · rw [if_pos h5]
      cases hx : (rn f r).2.2 with
      | some y =>
        refine ⟨fun x he => ?_, ?_⟩
        · injection he with he
          rw [← he]
          have := ih.1 y hx
          have := ins_size o.t y.2
          show (ins o.t y.2).size ≤ _
          omega
        · show (rn f r).1.length + (skl 1 (rn f r).2.1).length ≤ _
          rw [hrest]; have := ih.2; omega
      | none =>
        rw [hrest]
        refine ⟨fun x he => by have := ih2.1 x he; omega, ?_⟩
        show ((rn f r).1 ++ (rn f (skl 1 r)).1).length + (rn f (skl 1 r)).2.1.length ≤ _
        rw [List.length_append]; have := ih.2; have := ih2.2; omega
    rw [if_neg h5]
    refine ⟨(fun x hx => by cases hx), ?_⟩
    show 0 + r.length ≤ _
    omega

end Go.Proofs.Ytmjpdncgapbfpaa
