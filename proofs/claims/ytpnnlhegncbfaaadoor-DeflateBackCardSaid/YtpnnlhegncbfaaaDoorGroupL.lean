
/- Packed bytes, as the document has them, as plain functions on a list of bits; what is read is a beginning of the bits, what is there a beginning of the text. No program is named here: made ahead of the layer that will need it. -/

/- What letters and signs a match is told by, as plain functions: by its highest bit, and by the last one that fits. -/

/- Contracts of bits.Len and of the packer's stepped, length, token. -/
import Derived.Test.YtpnnlhegncbfaaaDoorGroupB
import Derived.Test.YtpnnlhegncbfaaaDoorGroupK
namespace Go.Proofs.YtpnnlhegncbfaaaDoor
set_option maxRecDepth 20000

/-- At which bit, what was put out, how many steps. -/
structure Sx where
  pos : Nat
  out : List UInt8
  steps : Nat
/-- A part of unpacking: of bits, a limit and a state an answer and the state then, or an error's number. -/
def X (α : Type) : Type := List UInt8 → Nat → Sx → Except Nat (α × Sx)
def pureX {α : Type} (a : α) : X α := fun _ _ s => .ok (a, s)
def failX {α : Type} (e : Nat) : X α := fun _ _ _ => .error e
def bindX {α β : Type} (f : X α) (h : α → X β) : X β := fun L lim s => match f L lim s with
  | .ok (a, s1) => h a L lim s1
  | .error e => .error e
/-- The bits of whole bytes. -/
def Bits (L : List UInt8) : Prop := Bin L ∧ L.length % 8 = 0
/-- What every part keeps: it goes on, within the bits and the limit; k steps more than bits at most, less g; and what is behind its end, and a greater limit, change nothing. -/
structure Good {α : Type} (k g : Nat) (f : X α) : Prop where
  all : ∀ L lim s a s', Bits L → f L lim s = .ok (a, s') → s.pos ≤ L.length → s.out.length ≤ lim →
    s.pos ≤ s'.pos ∧ s'.pos ≤ L.length ∧ s.out.length ≤ s'.out.length ∧ s'.out.length ≤ lim ∧ s'.steps + s.pos + g ≤ s.steps + s'.pos + k ∧
    ∀ L' lim', Bits L' → L'.take s'.pos = L.take s'.pos → s'.out.length ≤ lim' → f L' lim' s = .ok (a, s')
theorem Good.weak {α : Type} {k g k' g' : Nat} {f : X α} (h : Good k g f) (hk : k + g' ≤ k' + g) : Good k' g' f := ⟨fun L lim s a s' hb he h1 h2 => by
  obtain ⟨a1, a2, a3, a4, a5, a6⟩ := h.all L lim s a s' hb he h1 h2
  exact ⟨a1, a2, a3, a4, by omega, a6⟩⟩
theorem good_pure {α : Type} (a : α) : Good 0 0 (pureX a) := ⟨fun L lim s b s' _ he h1 h2 => by
  injection he with he
  injection he with he1 he2
  subst he1 he2
  exact ⟨Nat.le_refl _, h1, Nat.le_refl _, h2, by omega, fun _ _ _ _ _ => rfl⟩⟩
theorem good_fail {α : Type} (e : Nat) : Good 0 0 (failX e : X α) := ⟨fun L lim s b s' _ he _ _ => by cases he⟩
theorem take_less {L L' : List UInt8} {p q : Nat} (h : L'.take q = L.take q) (hp : p ≤ q) : L'.take p = L.take p := by
  have := congrArg (List.take p) h
  rwa [List.take_take, List.take_take, Nat.min_eq_left hp] at this
theorem good_bind {α β : Type} {k g k' g' : Nat} {f : X α} {h : α → X β} (hf : Good k g f) (hh : ∀ a, Good k' g' (h a)) : Good (k + k') (g + g') (bindX f h) := ⟨fun L lim s b s' hb he h1 h2 => by
  unfold bindX at he
  cases hfs : f L lim s with
  | error e => rw [hfs] at he; cases he
  | ok r =>
    obtain ⟨a, s1⟩ := r
    rw [hfs] at he
    obtain ⟨a1, a2, a3, a4, a5, a6⟩ := hf.all L lim s a s1 hb hfs h1 h2
    obtain ⟨b1, b2, b3, b4, b5, b6⟩ := (hh a).all L lim s1 b s' hb he a2 a4
    refine ⟨by omega, b2, by omega, b4, by omega, fun L' lim' hb' hL hl => ?_⟩
    unfold bindX
    rw [a6 L' lim' hb' (take_less hL b1) (by omega)]
    exact b6 L' lim' hb' hL hl⟩

/-- The next n bits as a number. -/
def numX (n : Nat) : X Nat := fun L _ s => if L.length < s.pos + n then .error 10 else .ok (numB ((L.drop s.pos).take n), ⟨s.pos + n, s.out, s.steps⟩)
theorem take_drop_eq {L L' : List UInt8} {p n : Nat} (h : L'.take (p + n) = L.take (p + n)) : (L'.drop p).take n = (L.drop p).take n := by
  have := congrArg (List.drop p) h
  rwa [List.drop_take, List.drop_take, Nat.add_sub_cancel_left] at this
theorem take_len {L L' : List UInt8} {p : Nat} (h : L'.take p = L.take p) (hp : p ≤ L.length) : p ≤ L'.length := by
  have := congrArg List.length h
  rw [List.length_take, List.length_take] at this
  omega
theorem good_num (n : Nat) : Good 0 n (numX n) := ⟨fun L lim s a s' _ he h1 h2 => by
  unfold numX at he
  by_cases hl : L.length < s.pos + n
  · rw [if_pos hl] at he; cases he
  · rw [if_neg hl] at he
    injection he with he
    injection he with he1 he2
    subst he1 he2
    refine ⟨by show s.pos ≤ s.pos + n; omega, by show s.pos + n ≤ _; omega, Nat.le_refl _, h2, by show s.steps + s.pos + n ≤ s.steps + (s.pos + n) + 0; omega, fun L' lim' _ hL hl' => ?_⟩
    have hL : L'.take (s.pos + n) = L.take (s.pos + n) := hL
    unfold numX
    rw [if_neg (by have := take_len hL (by omega); omega), take_drop_eq hL]⟩
/-- The next sign of the code of lengths. -/
def signX (ls : List Nat) : X Nat := fun L _ s => if tkE ls (L.drop s.pos) ≠ 0 then .error (tkE ls (L.drop s.pos)) else .ok (tkS ls (L.drop s.pos), ⟨s.pos + tkN ls (L.drop s.pos), s.out, s.steps⟩)
/-- Bits that are bits. -/
theorem tk_ok {ls : List Nat} {M : List UInt8} (h : tkE ls M = 0) : ∃ s, tkO ls M = some s ∧ hitP ls M s := by
  unfold tkE at h
  cases hO : tkO ls M with
  | none =>
    rw [hO] at h
    simp only at h
    split at h <;> omega
  | some s =>
    refine ⟨s, rfl, ?_⟩
    unfold tkO at hO
    have := List.find?_some hO
    simpa using this
theorem hit_same {ls : List Nat} {M M' : List UInt8} {s : Nat} (h : hitP ls M s) (he : M'.take (lenAt ls s) = M.take (lenAt ls s)) : hitP ls M' s :=
  ⟨h.1, by have := congrArg List.length he; rw [List.length_take, List.length_take, Nat.min_eq_left h.2.1] at this; omega, by rw [he]; exact h.2.2⟩
theorem good_sign (ls : List Nat) : Good 0 1 (signX ls) := ⟨fun L lim s a s' hb he h1 h2 => by
  unfold signX at he
  by_cases hE : tkE ls (L.drop s.pos) ≠ 0
  · rw [if_pos hE] at he; cases he
  · rw [if_neg hE] at he
    obtain ⟨x, hO, hx⟩ := tk_ok (ls := ls) (M := L.drop s.pos) (by omega)
    have hN : tkN ls (L.drop s.pos) = lenAt ls x := by unfold tkN; rw [hO]
    have hS : tkS ls (L.drop s.pos) = x := by unfold tkS; rw [hO]; rfl
    rw [hN, hS] at he
    injection he with he
    injection he with he1 he2
    subst he1 he2
    have hlen := hx.2.1
    rw [List.length_drop] at hlen
    have h0 := hx.1
    refine ⟨by show s.pos ≤ s.pos + _; omega, by show s.pos + lenAt ls x ≤ _; omega, Nat.le_refl _, h2, by show s.steps + s.pos + 1 ≤ s.steps + (s.pos + lenAt ls x) + 0; omega, fun L' lim' hb' hL _ => ?_⟩
    have hL : L'.take (s.pos + lenAt ls x) = L.take (s.pos + lenAt ls x) := hL
    have hx' : hitP ls (L'.drop s.pos) x := hit_same hx (take_drop_eq hL)
    have hO' := tkO_hit (hb'.1.drop s.pos) hx'
    unfold signX
    have e1 : tkE ls (L'.drop s.pos) = 0 := by unfold tkE; rw [hO']
    have e2 : tkN ls (L'.drop s.pos) = lenAt ls x := by unfold tkN; rw [hO']
    have e3 : tkS ls (L'.drop s.pos) = x := by unfold tkS; rw [hO']; rfl
    rw [if_neg (by omega), e2, e3]⟩
def stepX : X Unit := fun _ _ s => .ok ((), ⟨s.pos, s.out, s.steps + 1⟩)
theorem good_step : Good 1 0 stepX := ⟨fun L lim s a s' _ he h1 h2 => by
  injection he with he
  injection he with he1 he2
  subst he2
  exact ⟨Nat.le_refl _, h1, Nat.le_refl _, h2, by show s.steps + 1 + s.pos + 0 ≤ s.steps + s.pos + 1; omega, fun _ _ _ _ _ => rfl⟩⟩
/-- On to the next whole byte. -/
def alignX : X Unit := fun _ _ s => .ok ((), ⟨(s.pos + 7) / 8 * 8, s.out, s.steps⟩)
theorem good_align : Good 0 0 alignX := ⟨fun L lim s a s' hb he h1 h2 => by
  injection he with he
  injection he with he1 he2
  subst he2
  have := hb.2
  exact ⟨by show s.pos ≤ (s.pos + 7) / 8 * 8; omega, by show (s.pos + 7) / 8 * 8 ≤ L.length; omega, Nat.le_refl _, h2, by show s.steps + s.pos + 0 ≤ s.steps + (s.pos + 7) / 8 * 8 + 0; omega, fun _ _ _ _ _ => rfl⟩⟩
/-- The bytes of bits. -/
def bytesB (M : List UInt8) : Nat → List UInt8
  | 0 => []
  | n + 1 => UInt8.ofNat (numB (M.take 8)) :: bytesB (M.drop 8) n
theorem bytesB_length (M : List UInt8) (n : Nat) : (bytesB M n).length = n := by
  induction n generalizing M with
  | zero => rfl
  | succ n ih => simp [bytesB, ih]
theorem bytesB_same : ∀ (n : Nat) (M M' : List UInt8), M'.take (8 * n) = M.take (8 * n) → bytesB M' n = bytesB M n
  | 0, _, _, _ => rfl
  | n + 1, M, M', h => by
    unfold bytesB
    have h1 := take_less h (show 8 ≤ 8 * (n + 1) by omega)
    have h2 := congrArg (List.drop 8) h
    rw [List.drop_take, List.drop_take, show 8 * (n + 1) - 8 = 8 * n by omega] at h2
    rw [h1, bytesB_same n (M.drop 8) (M'.drop 8) h2]
/-- n bytes of a block of kind 0 are put out. -/
def storeX (n : Nat) : X Unit := fun L lim s => if lim < s.out.length + n then .error 3 else if L.length < s.pos + 8 * n then .error 10 else .ok ((), ⟨s.pos + 8 * n, s.out ++ bytesB (L.drop s.pos) n, s.steps + n⟩)
theorem good_store (n : Nat) : Good 0 0 (storeX n) := ⟨fun L lim s a s' _ he h1 h2 => by
  unfold storeX at he
  by_cases c1 : lim < s.out.length + n
  · rw [if_pos c1] at he; cases he
  · rw [if_neg c1] at he
    by_cases c2 : L.length < s.pos + 8 * n
    · rw [if_pos c2] at he; cases he
    · rw [if_neg c2] at he
      injection he with he
      injection he with he1 he2
      subst he2
      refine ⟨by show s.pos ≤ s.pos + 8 * n; omega, by show s.pos + 8 * n ≤ _; omega, by simp, by simp [bytesB_length]; omega, by show s.steps + n + s.pos + 0 ≤ s.steps + (s.pos + 8 * n) + 0; omega, fun L' lim' _ hL hl => ?_⟩
      have hL : L'.take (s.pos + 8 * n) = L.take (s.pos + 8 * n) := hL
      have hl : (s.out ++ bytesB (L.drop s.pos) n).length ≤ lim' := hl
      rw [List.length_append, bytesB_length] at hl
      unfold storeX
      rw [if_neg (by omega), if_neg (by have := take_len hL (by omega); omega), bytesB_same n (L.drop s.pos) (L'.drop s.pos) (take_drop_eq hL)]⟩
/-- A byte is put out. -/
def putX (x : Nat) : X Unit := fun _ lim s => if lim < s.out.length + 1 then .error 3 else .ok ((), ⟨s.pos, s.out ++ [UInt8.ofNat x], s.steps⟩)
theorem good_put (x : Nat) : Good 0 0 (putX x) := ⟨fun L lim s a s' _ he h1 h2 => by
  unfold putX at he
  by_cases c1 : lim < s.out.length + 1
  · rw [if_pos c1] at he; cases he
  · rw [if_neg c1] at he
    injection he with he
    injection he with he1 he2
    subst he2
    refine ⟨Nat.le_refl _, h1, by simp, by simp; omega, by show s.steps + s.pos + 0 ≤ s.steps + s.pos + 0; omega, fun L' lim' _ _ hl => ?_⟩
    have hl : (s.out ++ [UInt8.ofNat x]).length ≤ lim' := hl
    rw [List.length_append] at hl
    unfold putX
    rw [if_neg (by simpa using hl)]⟩
/-- n bytes from so far back, byte by byte. -/
def copyL (far : Nat) : Nat → List UInt8 → List UInt8
  | 0, o => o
  | n + 1, o => copyL far n (o ++ [o.getD (o.length - far) 0])
theorem copyL_length (far n : Nat) (o : List UInt8) : (copyL far n o).length = o.length + n := by
  induction n generalizing o with
  | zero => rfl
  | succ n ih => rw [copyL, ih, List.length_append]; simp; omega
def copyX (n far : Nat) : X Unit := fun _ lim s => if s.out.length < far then .error 2 else if lim < s.out.length + n then .error 3 else .ok ((), ⟨s.pos, copyL far n s.out, s.steps⟩)
theorem good_copy (n far : Nat) : Good 0 0 (copyX n far) := ⟨fun L lim s a s' _ he h1 h2 => by
  unfold copyX at he
  by_cases c0 : s.out.length < far
  · rw [if_pos c0] at he; cases he
  · rw [if_neg c0] at he
    by_cases c1 : lim < s.out.length + n
    · rw [if_pos c1] at he; cases he
    · rw [if_neg c1] at he
      injection he with he
      injection he with he1 he2
      subst he2
      refine ⟨Nat.le_refl _, h1, by show s.out.length ≤ (copyL far n s.out).length; rw [copyL_length]; omega, by show (copyL far n s.out).length ≤ lim; rw [copyL_length]; omega, by show s.steps + s.pos + 0 ≤ s.steps + s.pos + 0; omega, fun L' lim' _ _ hl => ?_⟩
      have hl : (copyL far n s.out).length ≤ lim' := hl
      rw [copyL_length] at hl
      unfold copyX
      rw [if_neg c0, if_neg (by omega)]⟩
/-- A block of kind 0. -/
def storedX : X Unit := bindX alignX fun _ => bindX (numX 16) fun n => bindX (numX 16) fun t => if n + t ≠ 65535 then failX 2 else storeX n
theorem good_stored : Good 0 0 storedX :=
  (good_bind good_align fun _ => good_bind (good_num 16) fun n => good_bind (k' := 0) (g' := 0) (good_num 16) fun t => by split; exact good_fail 2; exact good_store n).weak (by omega)
def places : List Nat := [16, 17, 18, 0, 8, 7, 9, 6, 10, 5, 11, 4, 12, 3, 13, 2, 14, 1, 15]
/-- The helpers' lengths from the i-th on, k of them. -/
def helpX : Nat → Nat → List Nat → X (List Nat)
  | 0, _, h => pureX h
  | k + 1, i, h => bindX stepX fun _ => bindX (numX 3) fun x => helpX k (i + 1) (h.set (places.getD i 0) x)
theorem good_help (k i : Nat) (h : List Nat) : Good 0 0 (helpX k i h) := by
  induction k generalizing i h with
  | zero => exact good_pure h
  | succ k ih => exact (good_bind good_step fun _ => good_bind (good_num 3) fun x => ih _ _).weak (by omega)
/-- What a helper's sign tells: how many times, which length. -/
def runX (s : Nat) (l : List Nat) : X (Nat × Nat) :=
  if s = 16 then (if l.length = 0 then failX 2 else bindX (numX 2) fun x => pureX (3 + x, l.getLastD 0))
  else if s = 17 then bindX (numX 3) fun x => pureX (3 + x, 0)
  else if s = 18 then bindX (numX 7) fun x => pureX (11 + x, 0)
  else pureX (1, s)
theorem good_run (s : Nat) (l : List Nat) : Good 0 0 (runX s l) := by
  unfold runX
  split
  · split
    · exact good_fail 2
    · exact (good_bind (good_num 2) fun x => good_pure _).weak (by omega)
  · split
    · exact (good_bind (good_num 3) fun x => good_pure _).weak (by omega)
    · split
      · exact (good_bind (good_num 7) fun x => good_pure _).weak (by omega)
      · exact good_pure _
/-- The lengths of letters and distances, up to so many. -/
def lensX (h : List Nat) (total : Nat) : Nat → List Nat → X (List Nat)
  | 0, _ => failX 99
  | k + 1, l => if total ≤ l.length then pureX l else bindX stepX fun _ => bindX (signX h) fun s => bindX (runX s l) fun r => if total < l.length + r.1 then failX 2 else lensX h total k (l ++ List.replicate r.1 r.2)
theorem good_lens (h : List Nat) (total k : Nat) (l : List Nat) : Good 0 0 (lensX h total k l) := by
  induction k generalizing l with
  | zero => exact good_fail 99
  | succ k ih =>
    unfold lensX
    split
    · exact good_pure l
    · exact (good_bind good_step fun _ => good_bind (good_sign h) fun s => good_bind (k' := 0) (g' := 0) (good_run s l) fun r => by split; exact good_fail 2; exact ih _).weak (by omega)
/-- The lengths are a code's. -/
def right (ls : List Nat) (lone : Bool) : Bool := decide (okF (cnt ls) ∧ (fst (cnt ls) 16 = 65536 ∨ (lone = true ∧ loneF (cnt ls))))
/-- The codes that a block of kind 2 tells. -/
def toldX : X (List Nat × List Nat) :=
  bindX (numX 5) fun a => bindX (numX 5) fun b => bindX (numX 4) fun c =>
    if 286 < 257 + a ∨ 30 < 1 + b then failX 2 else
    bindX (helpX (4 + c) 0 (List.replicate 19 0)) fun h =>
    if right h false = false then failX 2 else
    bindX (lensX h (257 + a + (1 + b)) (257 + a + (1 + b) + 1) []) fun l =>
    if right (l.take (257 + a)) false = false ∨ right (l.drop (257 + a)) true = false ∨ l.getD 256 0 = 0 then failX 2 else pureX (l.take (257 + a), l.drop (257 + a))
theorem good_told : Good 0 0 toldX := by
  refine (good_bind (good_num 5) fun a => good_bind (good_num 5) fun b => good_bind (k' := 0) (g' := 0) (good_num 4) fun c => ?_).weak (k' := 0) (g' := 0) (by omega)
  split
  · exact good_fail 2
  · refine (good_bind (k' := 0) (g' := 0) (good_help _ _ _) fun h => ?_).weak (by omega)
    split
    · exact good_fail 2
    · refine (good_bind (k' := 0) (g' := 0) (good_lens _ _ _ _) fun l => ?_).weak (by omega)
      split
      · exact good_fail 2
      · exact good_pure _
/-- What a letter tells: how many bits more, and the least length. -/
def lenMore (s : Nat) : Nat := if s = 285 then 0 else if 265 ≤ s then (s - 261) / 4 else 0
def lenSum : Nat → Nat
  | 0 => 3
  | k + 1 => lenSum k + 2 ^ (if 261 ≤ 257 + k then (257 + k - 261) / 4 else 0)
def lenBase (s : Nat) : Nat := if s = 285 then 258 else lenSum (s - 257)
/-- What a distance's sign tells. -/
def distMore (d : Nat) : Nat := if d < 4 then 0 else d / 2 - 1
def distSum : Nat → Nat
  | 0 => 1
  | k + 1 => distSum k + 2 ^ (if 2 ≤ k then k / 2 - 1 else 0)
/-- A letter of a block of kind 1 or 2: is the block at its end? -/
def letterX (a b : List Nat) : X Bool :=
  bindX stepX fun _ => bindX (signX a) fun s =>
    if s = 256 then pureX true else if s < 256 then bindX (putX s) fun _ => pureX false else if 285 < s then failX 2 else
    bindX (numX (lenMore s)) fun x => bindX (signX b) fun d =>
    if 29 < d then failX 2 else bindX (numX (distMore d)) fun y => bindX (copyX (lenBase s + x) (distSum d + y)) fun _ => pureX false
theorem good_letter (a b : List Nat) : Good 0 0 (letterX a b) := by
  refine (good_bind good_step fun _ => good_bind (k' := 0) (g' := 0) (good_sign a) fun s => ?_).weak (by omega)
  split
  · exact good_pure _
  · split
    · exact (good_bind (good_put s) fun _ => good_pure _).weak (by omega)
    · split
      · exact good_fail 2
      · refine (good_bind (k' := 0) (g' := 0) (good_num _) fun x => ?_).weak (k' := 0) (g' := 0) (by omega)
        refine (good_bind (k' := 0) (g' := 0) (good_sign b) fun d => ?_).weak (k' := 0) (g' := 0) (by omega)
        split
        · exact good_fail 2
        · exact (good_bind (good_num _) fun y => good_bind (good_copy _ _) fun _ => good_pure _).weak (by omega)
/-- Again and again, until it says that it is at its end. -/
def loopX (body : X Bool) : Nat → X Unit
  | 0 => failX 99
  | k + 1 => bindX body fun d => if d = true then pureX () else loopX body k
theorem good_loop {body : X Bool} (h : Good 0 0 body) (k : Nat) : Good 0 0 (loopX body k) := by
  induction k with
  | zero => exact good_fail 99
  | succ k ih => exact (good_bind (k' := 0) (g' := 0) h fun d => by split; exact good_pure (); exact ih).weak (by omega)
/-- Each time it goes on by a bit at least. -/
def Goes {α : Type} (f : X α) : Prop := ∀ L lim s a s', Bits L → f L lim s = .ok (a, s') → s.pos ≤ L.length → s.out.length ≤ lim → s.pos < s'.pos
theorem bind_ok {α β : Type} {f : X α} {h : α → X β} {L : List UInt8} {lim : Nat} {s s' : Sx} {b : β} (he : bindX f h L lim s = .ok (b, s')) : ∃ a s1, f L lim s = .ok (a, s1) ∧ h a L lim s1 = .ok (b, s') := by
  unfold bindX at he
  cases hf : f L lim s with
  | error e => rw [hf] at he; cases he
  | ok r =>
    obtain ⟨a, s1⟩ := r
    rw [hf] at he
    exact ⟨a, s1, rfl, he⟩
theorem ok_bind {α β : Type} {f : X α} {h : α → X β} {L : List UInt8} {lim : Nat} {s s1 : Sx} {a : α} {r : Except Nat (β × Sx)} (hf : f L lim s = .ok (a, s1)) (hh : h a L lim s1 = r) : bindX f h L lim s = r := by
  unfold bindX; rw [hf]; exact hh
/-- How often does not matter, where it is often enough; another body may stand in its place, if it does the same. -/
theorem loop_more {f f' : X Bool} (hf : Good 0 0 f) (hg : Goes f) {L : List UInt8} {lim : Nat} (hb : Bits L) (D : Nat) (hsame : ∀ s a s', s'.pos - s.pos ≤ D → f L lim s = .ok (a, s') → s.pos ≤ L.length → s.out.length ≤ lim → f' L lim s = .ok (a, s')) :
    ∀ (k k' : Nat) (s s' : Sx), loopX f k L lim s = .ok ((), s') → s.pos ≤ L.length → s.out.length ≤ lim → s'.pos - s.pos ≤ D → s'.pos - s.pos ≤ k' → loopX f' k' L lim s = .ok ((), s')
  | 0, _, s, s', he, _, _, _, _ => by cases he
  | k + 1, k', s, s', he, h1, h2, hD, hk => by
    obtain ⟨a, s1, e1, e2⟩ := bind_ok he
    obtain ⟨p1, p2, p3, p4, p5, p6⟩ := hf.all L lim s a s1 hb e1 h1 h2
    have hlt := hg L lim s a s1 hb e1 h1 h2
    cases a with
    | true =>
      simp only [if_true] at e2
      injection e2 with e2
      injection e2 with _ e3
      subst e3
      obtain ⟨j, rfl⟩ : ∃ j, k' = j + 1 := ⟨k' - 1, by omega⟩
      exact ok_bind (hsame s true s1 hD e1 h1 h2) rfl
    | false =>
      have e2 : loopX f k L lim s1 = .ok ((), s') := e2
      obtain ⟨q1, q2, q3, q4, q5, q6⟩ := (good_loop hf k).all L lim s1 () s' hb e2 p2 p4
      obtain ⟨j, rfl⟩ : ∃ j, k' = j + 1 := ⟨k' - 1, by omega⟩
      refine ok_bind (hsame s false s1 (by omega) e1 h1 h2) ?_
      exact loop_more hf hg hb D hsame k j s1 s' e2 p2 p4 (by omega) (by omega)
theorem goes_letter (a b : List Nat) : Goes (letterX a b) := fun L lim s x s' hb he h1 h2 => by
  obtain ⟨u, s1, e1, e2⟩ := bind_ok he
  obtain ⟨p1, p2, p3, p4, p5, p6⟩ := good_step.all L lim s u s1 hb e1 h1 h2
  obtain ⟨v, s2, e3, e4⟩ := bind_ok e2
  obtain ⟨q1, q2, q3, q4, q5, q6⟩ := (good_sign a).all L lim s1 v s2 hb e3 p2 p4
  have hs1 : s1.pos = s.pos ∧ s1.steps = s.steps + 1 := by
    injection e1 with e1
    injection e1 with _ e1
    subst e1
    exact ⟨rfl, rfl⟩
  have hs2 : s1.pos < s2.pos := by
    have : s2.steps = s1.steps := by
      unfold signX at e3
      split at e3
      · cases e3
      · injection e3 with e3
        injection e3 with _ e3
        subst e3; rfl
    omega
  have hrest : s2.pos ≤ s'.pos := by
    have hg : Good 0 0 (if v = 256 then pureX true else if v < 256 then bindX (putX v) fun _ => pureX false else if 285 < v then failX 2 else
        bindX (numX (lenMore v)) fun x => bindX (signX b) fun d => if 29 < d then failX 2 else bindX (numX (distMore d)) fun y => bindX (copyX (lenBase v + x) (distSum d + y)) fun _ => pureX false) := by
      split
      · exact good_pure _
      · split
        · exact (good_bind (good_put v) fun _ => good_pure _).weak (by omega)
        · split
          · exact good_fail 2
          · refine (good_bind (k' := 0) (g' := 0) (good_num _) fun x => ?_).weak (k' := 0) (g' := 0) (by omega)
            refine (good_bind (k' := 0) (g' := 0) (good_sign b) fun d => ?_).weak (k' := 0) (g' := 0) (by omega)
            split
            · exact good_fail 2
            · exact (good_bind (good_num _) fun y => good_bind (good_copy _ _) fun _ => good_pure _).weak (by omega)
    exact (hg.all L lim s2 x s' hb e4 q2 q4).1
  omega
/-- The fixed codes' lengths. -/
def fixA : List Nat := (List.range 288).map fun k => if k < 144 then 8 else if k < 256 then 9 else if k < 280 then 7 else 8
def fixB : List Nat := List.replicate 32 5
/-- What a block holds, behind its first three bits. -/
def kindX (F kind : Nat) : X Unit :=
  if kind = 0 then storedX else if kind = 1 then loopX (letterX fixA fixB) F else if kind = 2 then bindX toldX fun c => loopX (letterX c.1 c.2) F else failX 2
theorem good_kind (F kind : Nat) : Good 0 0 (kindX F kind) := by
  unfold kindX
  split
  · exact good_stored
  · split
    · exact good_loop (good_letter _ _) F
    · split
      · exact (good_bind (k' := 0) (g' := 0) good_told fun c => good_loop (good_letter _ _) F).weak (by omega)
      · exact good_fail 2
/-- A block: is it the last one? -/
def blockX (F : Nat) : X Bool := bindX stepX fun _ => bindX (numX 1) fun last => bindX (numX 2) fun kind => bindX (kindX F kind) fun _ => pureX (decide (last = 1))
theorem good_block (F : Nat) : Good 0 0 (blockX F) :=
  (good_bind good_step fun _ => good_bind (good_num 1) fun last => good_bind (good_num 2) fun kind => good_bind (good_kind F kind) fun _ => good_pure _).weak (by omega)
theorem num_ok {n : Nat} {L : List UInt8} {lim : Nat} {s s' : Sx} {x : Nat} (h : numX n L lim s = .ok (x, s')) : s'.pos = s.pos + n ∧ s'.out = s.out ∧ s'.steps = s.steps := by
  unfold numX at h
  split at h
  · cases h
  · injection h with h
    injection h with _ h
    subst h; exact ⟨rfl, rfl, rfl⟩
theorem block_parts {F : Nat} {L : List UInt8} {lim : Nat} {s s' : Sx} {d : Bool} (hb : Bits L) (he : blockX F L lim s = .ok (d, s')) (h1 : s.pos ≤ L.length) (h2 : s.out.length ≤ lim) :
    ∃ last kind s1, s1.pos = s.pos + 3 ∧ s1.pos ≤ L.length ∧ s1.out.length ≤ lim ∧ kindX F kind L lim s1 = .ok ((), s') ∧ d = decide (last = 1) ∧
      ∀ F' s'', kindX F' kind L lim s1 = .ok ((), s'') → blockX F' L lim s = .ok (d, s'') := by
  obtain ⟨u, s1, e1, e2⟩ := bind_ok he
  have g1 := good_step.all L lim s u s1 hb e1 h1 h2
  obtain ⟨last, s2, e3, e4⟩ := bind_ok e2
  have g2 := (good_num 1).all L lim s1 last s2 hb e3 g1.2.1 g1.2.2.2.1
  obtain ⟨kind, s3, e5, e6⟩ := bind_ok e4
  have g3 := (good_num 2).all L lim s2 kind s3 hb e5 g2.2.1 g2.2.2.2.1
  obtain ⟨v, s4, e7, e8⟩ := bind_ok e6
  injection e8 with e8
  injection e8 with e9 e10
  subst e10
  have hs1 : s1.pos = s.pos := by
    injection e1 with e1
    injection e1 with _ e1
    subst e1; rfl
  have n1 := num_ok e3
  have n2 := num_ok e5
  refine ⟨last, kind, s3, by omega, g3.2.1, g3.2.2.2.1, e7, e9.symm, fun F' s'' hk => ?_⟩
  refine ok_bind e1 (ok_bind e3 (ok_bind e5 (ok_bind hk ?_)))
  rw [e9]; rfl
theorem goes_block (F : Nat) : Goes (blockX F) := fun L lim s d s' hb he h1 h2 => by
  obtain ⟨last, kind, s1, p1, p2, p3, p4, _, _⟩ := block_parts hb he h1 h2
  have := ((good_kind F kind).all L lim s1 () s' hb p4 p2 p3).1
  omega
theorem kind_fuel {F F' kind : Nat} {L : List UInt8} {lim : Nat} {s s' : Sx} (hb : Bits L) (he : kindX F kind L lim s = .ok ((), s')) (h1 : s.pos ≤ L.length) (h2 : s.out.length ≤ lim) (hF : s'.pos - s.pos ≤ F') : kindX F' kind L lim s = .ok ((), s') := by
  unfold kindX at he ⊢
  split at he
  · rename_i h; rw [if_pos h]; exact he
  · rename_i h
    rw [if_neg h]
    split at he
    · rename_i h3
      rw [if_pos h3]
      exact loop_more (good_letter _ _) (goes_letter _ _) hb (s'.pos - s.pos) (fun _ _ _ _ h _ _ => h) F F' s s' he h1 h2 (Nat.le_refl _) hF
    · rename_i h3
      rw [if_neg h3]
      split at he
      · rename_i h4
        rw [if_pos h4]
        obtain ⟨c, s1, e1, e2⟩ := bind_ok he
        have g1 := good_told.all L lim s c s1 hb e1 h1 h2
        refine ok_bind e1 ?_
        exact loop_more (good_letter _ _) (goes_letter _ _) hb (s'.pos - s1.pos) (fun _ _ _ _ h _ _ => h) F F' s1 s' e2 g1.2.1 g1.2.2.2.1 (Nat.le_refl _) (by have := g1.1; omega)
      · cases he
theorem block_fuel {F F' : Nat} {L : List UInt8} {lim : Nat} {s s' : Sx} {d : Bool} (hb : Bits L) (he : blockX F L lim s = .ok (d, s')) (h1 : s.pos ≤ L.length) (h2 : s.out.length ≤ lim) (hF : s'.pos - s.pos ≤ F') : blockX F' L lim s = .ok (d, s') := by
  obtain ⟨last, kind, s1, p1, p2, p3, p4, _, p6⟩ := block_parts hb he h1 h2
  exact p6 F' s' (kind_fuel hb p4 p2 p3 (by omega))
/-- What packed bits come to. -/
def inflF (F : Nat) (L : List UInt8) (lim : Nat) : Except Nat (Unit × Sx) := loopX (blockX F) F L lim ⟨0, [], 0⟩
theorem infl_same {F F' : Nat} {L L' : List UInt8} {lim lim' : Nat} {s' : Sx} (hb : Bits L) (hb' : Bits L') (he : inflF F L lim = .ok ((), s')) (hL : L'.take s'.pos = L.take s'.pos) (hl : s'.out.length ≤ lim') (hF : s'.pos ≤ F') : inflF F' L' lim' = .ok ((), s') := by
  have g := (good_loop (good_block F) F).all L lim ⟨0, [], 0⟩ () s' hb he (Nat.zero_le _) (Nat.zero_le _)
  have h1 := g.2.2.2.2.2 L' lim' hb' hL hl
  unfold inflF
  exact loop_more (good_block F) (goes_block F) hb' s'.pos (fun s a s'' hD e p1 p2 => block_fuel hb' e p1 p2 (by omega)) F F' ⟨0, [], 0⟩ s' h1 (Nat.zero_le _) (Nat.zero_le _) (by simp) (by simpa using hF)
/-- How far it goes, how much there is, and how many steps there are. -/
theorem infl_bounds {F : Nat} {L : List UInt8} {lim : Nat} {s' : Sx} (hb : Bits L) (he : inflF F L lim = .ok ((), s')) : 3 ≤ s'.pos ∧ s'.pos ≤ L.length ∧ s'.out.length ≤ lim ∧ s'.steps ≤ s'.pos := by
  have g := (good_loop (good_block F) F).all L lim ⟨0, [], 0⟩ () s' hb he (Nat.zero_le _) (Nat.zero_le _)
  refine ⟨?_, g.2.1, g.2.2.2.1, by have := g.2.2.2.2.1; simpa using this⟩
  cases F with
  | zero => cases he
  | succ F =>
    obtain ⟨d, s1, e1, e2⟩ := bind_ok he
    obtain ⟨last, kind, s2, p1, p2, p3, p4, _, _⟩ := block_parts hb e1 (Nat.zero_le _) (Nat.zero_le _)
    have h1 := (good_kind (F + 1) kind).all L lim s2 () s1 hb p4 p2 p3
    have h2 : s1.pos ≤ s'.pos := by
      split at e2
      · injection e2 with e2; injection e2 with _ e2; subst e2; exact Nat.le_refl _
      · exact ((good_loop (good_block (F + 1)) F).all L lim s1 () s' hb e2 h1.2.1 h1.2.2.2.1).1
    have : s2.pos = 0 + 3 := p1
    have := h1.1
    omega
end Go.Proofs.YtpnnlhegncbfaaaDoor
namespace Go.Proofs.YtpnnlhegncbfaaaDoor
set_option maxRecDepth 20000

/-- How many bits a number below 256 has. -/
def lenT (y : Nat) : Nat := if y < 1 then 0 else if y < 2 then 1 else if y < 4 then 2 else if y < 8 then 3 else if y < 16 then 4 else if y < 32 then 5 else if y < 64 then 6 else if y < 128 then 7 else 8
/-- How many bits a number below 65536 has. -/
def blen (x : Nat) : Nat := if x < 256 then lenT x else 8 + lenT (x / 256)
theorem lenT_le (y : Nat) : lenT y ≤ 8 := by
  unfold lenT
  repeat' split
  all_goals omega
theorem blen_le (x : Nat) : blen x ≤ 16 := by
  unfold blen
  have h1 := lenT_le x
  have h2 := lenT_le (x / 256)
  split <;> omega
def fur (x fine : Nat) : Nat := blen x - 1 - fine
def sgn (first x fine : Nat) : Nat := first + fur x fine * 2 ^ fine + x / 2 ^ fur x fine

/-- The letter of a length. -/
theorem len_tells : ∀ L : Nat, L < 258 → 3 ≤ L →
    (257 ≤ sgn 257 (L - 3) 2 ∧ sgn 257 (L - 3) 2 ≤ 284 ∧ lenBase (sgn 257 (L - 3) 2) ≤ L ∧ L - lenBase (sgn 257 (L - 3) 2) = (L - 3) % 2 ^ fur (L - 3) 2 ∧ lenMore (sgn 257 (L - 3) 2) = fur (L - 3) 2) := by decide +kernel
theorem len_last : ∀ L : Nat, L < 258 → 3 ≤ L → ∀ s : Nat, s < 286 → sgn 257 (L - 3) 2 < s → L < lenBase s := by decide +kernel
theorem len_258 : lenBase 285 = 258 ∧ lenMore 285 = 0 := by decide +kernel
theorem dist_mono : ∀ a : Nat, a < 31 → ∀ b : Nat, b < 31 → a ≤ b → distSum a ≤ distSum b := by decide +kernel

theorem lenT_at : ∀ k : Nat, k < 8 → ∀ y : Nat, y < 256 → 2 ^ k ≤ y → y < 2 ^ (k + 1) → lenT y = k + 1 := by decide +kernel
theorem blen_at {x k : Nat} (hk : k ≤ 15) (h1 : 2 ^ k ≤ x) (h2 : x < 2 ^ (k + 1)) : blen x = k + 1 := by
  unfold blen
  by_cases hx : x < 256
  · rw [if_pos hx]
    have h8 : k < 8 := by
      rcases Nat.lt_or_ge k 8 with h | h
      · exact h
      · have := Nat.pow_le_pow_right (show 0 < 2 by decide) h
        omega
    exact lenT_at k h8 x hx h1 h2
  · rw [if_neg hx]
    have h8 : 8 ≤ k := by
      rcases Nat.lt_or_ge k 8 with h | h
      · have := Nat.pow_le_pow_right (show 0 < 2 by decide) (show k + 1 ≤ 8 from h)
        omega
      · exact h
    obtain ⟨j, rfl⟩ : ∃ j, k = 8 + j := ⟨k - 8, by omega⟩
    have e1 : 2 ^ (8 + j) = 256 * 2 ^ j := by rw [Nat.pow_add]
    have e2 : 2 ^ (8 + j + 1) = 256 * 2 ^ (j + 1) := by rw [Nat.add_assoc, Nat.pow_add]
    have e3 : 2 ^ (j + 1) = 2 * 2 ^ j := by rw [Nat.pow_succ, Nat.mul_comm]
    have e4 : 2 ^ (j + 1) ≤ 2 ^ 8 := Nat.pow_le_pow_right (by decide) (by omega)
    rw [lenT_at j (by omega) (x / 256) (by omega) (by omega) (by omega)]
    omega
/-- The sign of a distance x + 1, where x has k + 2 bits. -/
theorem dist_at {x k : Nat} (hk : k ≤ 13) (h1 : 2 ^ (k + 1) ≤ x) (h2 : x < 2 ^ (k + 2)) :
    fur x 1 = k ∧ (sgn 0 x 1 = 2 * k + 2 ∨ sgn 0 x 1 = 2 * k + 3) ∧ distSum (sgn 0 x 1) ≤ x + 1 ∧ x + 1 - distSum (sgn 0 x 1) = x % 2 ^ k ∧ x + 1 < distSum (sgn 0 x 1 + 1) ∧ distMore (sgn 0 x 1) = k := by
  have hb := blen_at (x := x) (k := k + 1) (by omega) h1 h2
  have hf : fur x 1 = k := by unfold fur; omega
  have hs : sgn 0 x 1 = k * 2 ^ 1 + x / 2 ^ k := by unfold sgn; rw [hf]; omega
  refine ⟨hf, ?_⟩
  rw [hs]
  clear hb hf hs
  have hd : x / 2 ^ k = 2 ∨ x / 2 ^ k = 3 := by
    rcases (show k = 0 ∨ k = 1 ∨ k = 2 ∨ k = 3 ∨ k = 4 ∨ k = 5 ∨ k = 6 ∨ k = 7 ∨ k = 8 ∨ k = 9 ∨ k = 10 ∨ k = 11 ∨ k = 12 ∨ k = 13 by omega) with rfl | rfl | rfl | rfl | rfl | rfl | rfl | rfl | rfl | rfl | rfl | rfl | rfl | rfl <;> simp only [Nat.reducePow, Nat.reduceAdd] at h1 h2 ⊢ <;> omega
  have hm := Nat.div_add_mod x (2 ^ k)
  have hl : x % 2 ^ k < 2 ^ k := Nat.mod_lt _ (Nat.two_pow_pos _)
  have t2 : ∀ k : Nat, k < 14 → distSum (2 * k + 2) = 2 * 2 ^ k + 1 ∧ distSum (2 * k + 3) = 3 * 2 ^ k + 1 ∧ distSum (2 * k + 4) = 4 * 2 ^ k + 1 ∧ distMore (2 * k + 2) = k ∧ distMore (2 * k + 3) = k := by decide +kernel
  obtain ⟨a1, a2, a3, a4, a5⟩ := t2 k (by omega)
  rcases hd with hd | hd
  · rw [hd] at hm ⊢
    rw [show k * 2 ^ 1 + 2 = 2 * k + 2 by omega]
    refine ⟨.inl rfl, ?_⟩
    rw [show 2 * k + 2 + 1 = 2 * k + 3 by omega, a1, a2, a4]
    refine ⟨by omega, by omega, by omega, rfl⟩
  · rw [hd] at hm ⊢
    rw [show k * 2 ^ 1 + 3 = 2 * k + 3 by omega]
    refine ⟨.inr rfl, ?_⟩
    rw [show 2 * k + 3 + 1 = 2 * k + 4 by omega, a2, a3, a5]
    refine ⟨by omega, by omega, by omega, rfl⟩
theorem dist_tells {x : Nat} (hx : x < 32768) :
    sgn 0 x 1 ≤ 29 ∧ distSum (sgn 0 x 1) ≤ x + 1 ∧ x + 1 - distSum (sgn 0 x 1) = x % 2 ^ fur x 1 ∧ distMore (sgn 0 x 1) = fur x 1 ∧ fur x 1 ≤ 13 ∧ ∀ s, sgn 0 x 1 < s → s ≤ 29 → x + 1 < distSum s := by
  by_cases h2 : x < 2
  · have hf : fur x 1 = 0 ∧ sgn 0 x 1 = x := by
      rcases (show x = 0 ∨ x = 1 by omega) with rfl | rfl <;> decide
    rw [hf.1, hf.2]
    have d : ∀ x : Nat, x < 2 → distSum x = x + 1 ∧ distMore x = 0 ∧ distSum (x + 1) = x + 2 := by decide +kernel
    obtain ⟨d1, d2, d3⟩ := d x h2
    refine ⟨by omega, by omega, by omega, d2, by omega, fun s h h' => ?_⟩
    have := dist_mono (x + 1) (by omega) s (by omega) (by omega)
    omega
  · obtain ⟨k, hk, h3, h4⟩ : ∃ k, k ≤ 13 ∧ 2 ^ (k + 1) ≤ x ∧ x < 2 ^ (k + 2) := by
      by_cases a1 : x < 4; · exact ⟨0, by omega, by simp only [Nat.reducePow, Nat.reduceAdd]; omega, by simp only [Nat.reducePow, Nat.reduceAdd]; omega⟩
      by_cases a2 : x < 8; · exact ⟨1, by omega, by simp only [Nat.reducePow, Nat.reduceAdd]; omega, by simp only [Nat.reducePow, Nat.reduceAdd]; omega⟩
      by_cases a3 : x < 16; · exact ⟨2, by omega, by simp only [Nat.reducePow, Nat.reduceAdd]; omega, by simp only [Nat.reducePow, Nat.reduceAdd]; omega⟩
      by_cases a4 : x < 32; · exact ⟨3, by omega, by simp only [Nat.reducePow, Nat.reduceAdd]; omega, by simp only [Nat.reducePow, Nat.reduceAdd]; omega⟩
      by_cases a5 : x < 64; · exact ⟨4, by omega, by simp only [Nat.reducePow, Nat.reduceAdd]; omega, by simp only [Nat.reducePow, Nat.reduceAdd]; omega⟩
      by_cases a6 : x < 128; · exact ⟨5, by omega, by simp only [Nat.reducePow, Nat.reduceAdd]; omega, by simp only [Nat.reducePow, Nat.reduceAdd]; omega⟩
      by_cases a7 : x < 256; · exact ⟨6, by omega, by simp only [Nat.reducePow, Nat.reduceAdd]; omega, by simp only [Nat.reducePow, Nat.reduceAdd]; omega⟩
      by_cases a8 : x < 512; · exact ⟨7, by omega, by simp only [Nat.reducePow, Nat.reduceAdd]; omega, by simp only [Nat.reducePow, Nat.reduceAdd]; omega⟩
      by_cases a9 : x < 1024; · exact ⟨8, by omega, by simp only [Nat.reducePow, Nat.reduceAdd]; omega, by simp only [Nat.reducePow, Nat.reduceAdd]; omega⟩
      by_cases b1 : x < 2048; · exact ⟨9, by omega, by simp only [Nat.reducePow, Nat.reduceAdd]; omega, by simp only [Nat.reducePow, Nat.reduceAdd]; omega⟩
      by_cases b2 : x < 4096; · exact ⟨10, by omega, by simp only [Nat.reducePow, Nat.reduceAdd]; omega, by simp only [Nat.reducePow, Nat.reduceAdd]; omega⟩
      by_cases b3 : x < 8192; · exact ⟨11, by omega, by simp only [Nat.reducePow, Nat.reduceAdd]; omega, by simp only [Nat.reducePow, Nat.reduceAdd]; omega⟩
      by_cases b4 : x < 16384; · exact ⟨12, by omega, by simp only [Nat.reducePow, Nat.reduceAdd]; omega, by simp only [Nat.reducePow, Nat.reduceAdd]; omega⟩
      exact ⟨13, by omega, by simp only [Nat.reducePow, Nat.reduceAdd]; omega, by simp only [Nat.reducePow, Nat.reduceAdd]; omega⟩
    obtain ⟨c1, c2, c3, c4, c5, c6⟩ := dist_at hk h3 h4
    rw [c1]
    refine ⟨by omega, c3, c4, c6, hk, fun s h h' => ?_⟩
    have := dist_mono (sgn 0 x 1 + 1) (by omega) s (by omega) (by omega)
    omega
end Go.Proofs.YtpnnlhegncbfaaaDoor
namespace Go.Proofs.YtpnnlhegncbfaaaDoor
set_option maxRecDepth 20000
open Go.RowKit

theorem ofInt_i64 (a : Nat) (ha : a < 9223372036854775808) : (BitVec.ofInt 64 (a : Int)).toNat = a := by
  rw [BitVec.ofInt_natCast, BitVec.toNat_ofNat]; exact Nat.mod_eq_of_lt (by omega)
theorem i64_and_nat (a b : Nat) (ha : a < 4611686018427387904) (hb : b < 4611686018427387904) : bits .and .i64 (a : Int) (b : Int) = ((a &&& b : Nat) : Int) := by
  have hx : a &&& b ≤ a := Nat.and_le_left
  show IntKind.i64.wrap ((BitVec.ofInt 64 (a : Int) &&& BitVec.ofInt 64 (b : Int)).toNat : Int) = _
  rw [BitVec.toNat_and, ofInt_i64 a (by omega), ofInt_i64 b (by omega)]
  simp [IntKind.wrap, IntKind.bits, IntKind.signed]
  omega
theorem i64_xor_nat (a b : Nat) (ha : a < 4611686018427387904) (hb : b < 4611686018427387904) : bits .xor .i64 (a : Int) (b : Int) = ((a ^^^ b : Nat) : Int) := by
  have hx : a ^^^ b < 2 ^ 62 := Nat.xor_lt_two_pow (by omega) (by omega)
  show IntKind.i64.wrap ((BitVec.ofInt 64 (a : Int) ^^^ BitVec.ofInt 64 (b : Int)).toNat : Int) = _
  rw [BitVec.toNat_xor, ofInt_i64 a (by omega), ofInt_i64 b (by omega)]
  simp [IntKind.wrap, IntKind.bits, IntKind.signed]
  omega
theorem xor_ffff (n : Nat) (h : n ≤ 65535) : n ^^^ 65535 = 65535 - n := by
  apply Nat.eq_of_testBit_eq
  intro i
  have e1 : (65535 : Nat) = 2 ^ 16 - 1 := rfl
  have e2 : 65535 - n = 2 ^ 16 - (n + 1) := by omega
  rw [Nat.testBit_xor, e2, Nat.testBit_two_pow_sub_succ (by omega), e1, Nat.testBit_two_pow_sub_one]
  by_cases hi : i < 16
  · simp [hi]
  · have : n.testBit i = false := Nat.testBit_lt_two_pow (Nat.lt_of_lt_of_le (show n < 2 ^ 16 by omega) (Nat.pow_le_pow_right (by decide) (by omega)))
    simp [hi, this]
theorem xor_n (n : Nat) (h : n ≤ 65535) : bits .xor .i64 (n : Int) 65535 = ((65535 - n : Nat) : Int) := by
  rw [show (65535 : Int) = ((65535 : Nat) : Int) from rfl, i64_xor_nat _ _ (by omega) (by omega), xor_ffff n h]
theorem and_low (x f : Nat) (hf : f ≤ 32) (hx : x < 4611686018427387904) : bits .and .i64 (x : Int) ((2 : Int) ^ f - 1) = ((x % 2 ^ f : Nat) : Int) := by
  have hp : 2 ^ f ≤ 2 ^ 32 := Nat.pow_le_pow_right (by decide) hf
  have hp0 := Nat.two_pow_pos f
  rw [show (2 : Int) ^ f - 1 = ((2 ^ f - 1 : Nat) : Int) by rw [Int.natCast_sub hp0]; simp, i64_and_nat _ _ hx (by omega), Nat.and_two_pow_sub_one_eq_mod]
def ltab : ByteArray := ⟨#[0, 1, 2, 2, 3, 3, 3, 3, 4, 4, 4, 4, 4, 4, 4, 4, 5, 5, 5, 5, 5, 5, 5, 5, 5, 5, 5, 5, 5, 5, 5, 5, 6, 6, 6, 6, 6, 6, 6, 6, 6, 6, 6, 6, 6, 6, 6, 6, 6, 6, 6, 6, 6, 6, 6, 6, 6, 6, 6, 6, 6, 6, 6, 6, 7, 7, 7, 7, 7, 7, 7, 7, 7, 7, 7, 7, 7, 7, 7, 7, 7, 7, 7, 7, 7, 7, 7, 7, 7, 7, 7, 7, 7, 7, 7, 7, 7, 7, 7, 7, 7, 7, 7, 7, 7, 7, 7, 7, 7, 7, 7, 7, 7, 7, 7, 7, 7, 7, 7, 7, 7, 7, 7, 7, 7, 7, 7, 7, 8, 8, 8, 8, 8, 8, 8, 8, 8, 8, 8, 8, 8, 8, 8, 8, 8, 8, 8, 8, 8, 8, 8, 8, 8, 8, 8, 8, 8, 8, 8, 8, 8, 8, 8, 8, 8, 8, 8, 8, 8, 8, 8, 8, 8, 8, 8, 8, 8, 8, 8, 8, 8, 8, 8, 8, 8, 8, 8, 8, 8, 8, 8, 8, 8, 8, 8, 8, 8, 8, 8, 8, 8, 8, 8, 8, 8, 8, 8, 8, 8, 8, 8, 8, 8, 8, 8, 8, 8, 8, 8, 8, 8, 8, 8, 8, 8, 8, 8, 8, 8, 8, 8, 8, 8, 8, 8, 8, 8, 8, 8, 8, 8, 8, 8, 8, 8, 8, 8, 8, 8, 8, 8, 8, 8, 8, 8, 8]⟩
theorem ltab_size : ltab.size = 256 := by decide +kernel
theorem ltab_at : ∀ k : Nat, ∀ h : k < 256, (ltab[k]'(by rw [ltab_size]; exact h)).toNat = lenT k := by decide +kernel
set_option maxHeartbeats 1000000 in
set_option maxRecDepth 10000 in
theorem blen64_any (x : Nat) (hx : x < 65536) (w : World) : Calls Tryd.prog 109 #[.int .u64 (x : Int)] w fun e w' => e = .returned (.int .i64 (blen x : Int)) ∧ w' = w := by
  have d1 : decide (4294967296 ≤ (x : Int)) = false := decide_eq_false (by omega)
  have d2 : decide (65536 ≤ (x : Int)) = false := decide_eq_false (by omega)
  go_enter Tryd.func109, Tryd.ntmps109
  by_cases h : x < 256
  · have d3 : decide (256 ≤ (x : Int)) = false := decide_eq_false (by omega)
    have e1 : (x : Int) % 256 = (x : Int) := by omega
    go_wp2_with fail
    go_ret
    refine ⟨?_, rfl⟩
    have h1 := ltab_at x h
    have h2 := lenT_le x
    have hb : blen x = lenT x := by unfold blen; rw [if_pos h]
    have e2 : wrap64 (wrap64 ((ltab[x]'(by rw [ltab_size]; exact h)).toNat : Int)) = (blen x : Int) := by
      rw [h1, hb]; unfold wrap64; omega
    exact congrArg (fun z => Ending.returned (Value.int .i64 z)) e2
  · have d3 : decide (256 ≤ (x : Int)) = true := decide_eq_true (by omega)
    obtain ⟨y, hy⟩ : ∃ y, x / 256 = y := ⟨_, rfl⟩
    have hy2 : y < 256 := by omega
    have ey : (x : Int) / 256 = (y : Int) := by omega
    have e1 : (y : Int) % 256 = (y : Int) := by omega
    have HY := Lib.hid hy
    clear hy
    go_wp2_with fail
    go_ret
    refine ⟨?_, rfl⟩
    have h1 := ltab_at y hy2
    have h2 := lenT_le y
    have hb : blen x = 8 + lenT y := by unfold blen; rw [if_neg h, HY.out]
    have e2 : wrap64 (8 + wrap64 ((ltab[y]'(by rw [ltab_size]; exact hy2)).toNat : Int)) = (blen x : Int) := by
      rw [h1, hb]; unfold wrap64; omega
    exact congrArg (fun z => Ending.returned (Value.int .i64 z)) e2
set_option maxHeartbeats 1000000 in
set_option maxRecDepth 10000 in
theorem blen_any (x : Nat) (hx : x < 65536) (w : World) : Calls Tryd.prog 100 #[.int .u64 (x : Int)] w fun e w' => e = .returned (.int .i64 (blen x : Int)) ∧ w' = w := by
  go_enter Tryd.func100, Tryd.ntmps100
  go_wp2_with fail
  refine (blen64_any x hx w).mono ?_
  rintro e wz ⟨rfl, rfl⟩
  go_wp2_with fail
  go_ret
  exact ⟨rfl, rfl⟩
end Go.Proofs.YtpnnlhegncbfaaaDoor
