/- Literals: what a text's signs are written as, and what a literal is read as. No program in it. -/
import Derived.Test.YtanmkddmebhdpaaDoorUtp
namespace Go.Proofs.YtanmkddmebhdpaaDoor
set_option maxRecDepth 100000
open Go.Lib

def signsL : List Nat := [34, 92, 8, 12, 10, 13, 9]
def lettersL : List Nat := [34, 92, 98, 102, 110, 114, 116]
/-- A figure's byte. -/
def figB (i : Nat) : UInt8 := nb (if i < 10 then 48 + i else 87 + i)
def fourL (n : Nat) : List UInt8 := [92, 117, figB (n / 4096), figB (n / 256 % 16), figB (n / 16 % 16), figB (n % 16)]
/-- What a literal has for a sign. -/
def escP (narrow : Bool) (c : Nat) : List UInt8 :=
  if signsL.idxOf c < 7 then [92, nb (lettersL.getD (signsL.idxOf c) 0)]
  else if 32 ≤ c ∧ (c < 127 ∨ narrow = false) then encB c
  else if c < 65536 then fourL c
  else fourL (55296 + (c - 65536) / 1024) ++ fourL (56320 + (c - 65536) % 1024)
/-- The literal. -/
def quoP (narrow : Bool) (cs : List Nat) : List UInt8 := 34 :: (cs.flatMap (escP narrow) ++ [34])

/-- What a figure's byte tells. -/
def valF (u : UInt8) : Option Nat :=
  if 48 ≤ u.toNat ∧ u.toNat ≤ 57 then some (u.toNat - 48)
  else if 97 ≤ u.toNat ∧ u.toNat ≤ 102 then some (u.toNat - 87)
  else if 65 ≤ u.toNat ∧ u.toNat ≤ 70 then some (u.toNat - 55)
  else none
/-- k figures on, as a number. -/
def numF (bad : Nat) : Nat → List UInt8 → Nat → Except Nat Nat
  | 0, _, x => .ok x
  | _ + 1, [], _ => .error 10
  | k + 1, u :: l, x => match valF u with
    | none => .error bad
    | some v => numF bad k l (x * 16 + v)
/-- The second escape's number, behind its first two bytes; behind its first one; whole. -/
def halfH (l : List UInt8) : Except Nat Nat := match numF 9 4 l 0 with
  | .error k => .error k
  | .ok n => if 56320 ≤ n ∧ n ≤ 57343 then .ok n else .error 9
def halfG : List UInt8 → Except Nat Nat
  | [] => .error 10
  | b :: l => if b ≠ 117 then .error 9 else halfH l
def halfF : List UInt8 → Except Nat Nat
  | [] => .error 10
  | a :: l => if a ≠ 92 then .error 9 else halfG l
/-- The sign of an escape of a number, behind its first two bytes. -/
def numberedF (l : List UInt8) : Except Nat (Nat × Nat) :=
  match numF 2 4 l 0 with
  | .error k => .error k
  | .ok n =>
    if 56320 ≤ n ∧ n ≤ 57343 then .error 9
    else if n < 55296 ∨ 57343 < n then .ok (n, 6)
    else match halfF (l.drop 4) with
      | .error k => .error k
      | .ok m => .ok (65536 + (n - 55296) * 1024 + (m - 56320), 12)
/-- The sign of an escape, behind the backslash. -/
def escF : List UInt8 → Except Nat (Nat × Nat)
  | [] => .error 10
  | a :: l =>
    if a = 117 then numberedF l
    else if a = 47 then .ok (47, 2)
    else if lettersL.idxOf a.toNat < 7 then .ok (signsL.getD (lettersL.idxOf a.toNat) 0, 2)
    else .error 2
/-- What is read behind the first quote; full tells whether bytes are a whole sign or can be none. -/
def litF (full : List UInt8 → Bool) : Nat → List UInt8 → List UInt8 → Nat → Except Nat (List UInt8 × Nat)
  | 0, _, _, _ => .error 0
  | n + 1, l, t, u =>
    if l = [] then .error 10
    else if (decodeL l).1 = 34 then .ok (t, u + 1)
    else if (decodeL l).1 = 92 then match escF (l.drop 1) with
      | .error k => .error k
      | .ok (c, m) => litF full n (l.drop m) (t ++ encB c) (u + m)
    else if (decodeL l).1 < 32 then .error 2
    else if decodeL l = (65533, 1) then .error (if full l then 9 else 10)
    else litF full n (l.drop (decodeL l).2) (t ++ encB (decodeL l).1) (u + (decodeL l).2)
/-- A whole literal, from its first quote on. -/
def unqF (full : List UInt8 → Bool) (l : List UInt8) : Except Nat (List UInt8 × Nat) :=
  if l = [] then .error 10 else if l.head? ≠ some 34 then .error 2 else litF full (l.length) (l.drop 1) [] 1

theorem val_fig (i : Nat) (h : i < 16) : valF (figB i) = some i := by
  have : ∀ i : Fin 16, valF (figB i.val) = some i.val := by decide +kernel
  exact this ⟨i, h⟩
theorem num_four (bad n : Nat) (h : n < 65536) (r : List UInt8) : numF bad 4 (figB (n / 4096) :: figB (n / 256 % 16) :: figB (n / 16 % 16) :: figB (n % 16) :: r) 0 = .ok n := by
  simp only [numF, val_fig _ (show n / 4096 < 16 by omega), val_fig _ (show n / 256 % 16 < 16 by omega), val_fig _ (show n / 16 % 16 < 16 by omega), val_fig _ (show n % 16 < 16 by omega)]
  congr 1
  omega
theorem four_len (n : Nat) : (fourL n).length = 6 := rfl
theorem escF_cons (a : UInt8) (l : List UInt8) : escF (a :: l) = if a = 117 then numberedF l else if a = 47 then .ok (47, 2) else if lettersL.idxOf a.toNat < 7 then .ok (signsL.getD (lettersL.idxOf a.toNat) 0, 2) else .error 2 := rfl
theorem escF_u (l : List UInt8) : escF (117 :: l) = numberedF l := by
  rw [escF_cons, if_pos rfl]
theorem numberedF_one (l : List UInt8) (n : Nat) (h : numF 2 4 l 0 = .ok n) (h1 : n < 55296 ∨ 57343 < n) : numberedF l = .ok (n, 6) := by
  unfold numberedF
  rw [h]
  dsimp only
  rw [if_neg (by omega), if_pos (by omega)]
theorem numberedF_two (l : List UInt8) (n m : Nat) (h : numF 2 4 l 0 = .ok n) (h1 : 55296 ≤ n ∧ n < 56320) (h2 : halfF (l.drop 4) = .ok m) : numberedF l = .ok (65536 + (n - 55296) * 1024 + (m - 56320), 12) := by
  unfold numberedF
  rw [h]
  dsimp only
  rw [if_neg (by omega), if_neg (by omega), h2]
theorem halfF_ok (l : List UInt8) (n : Nat) (h : numF 9 4 l 0 = .ok n) (h1 : 56320 ≤ n ∧ n ≤ 57343) : halfF (92 :: 117 :: l) = .ok n := by
  have e1 : halfF (92 :: 117 :: l) = if (92 : UInt8) ≠ 92 then .error 9 else halfG (117 :: l) := rfl
  have e2 : halfG (117 :: l) = if (117 : UInt8) ≠ 117 then .error 9 else halfH l := rfl
  rw [e1, if_neg (by decide), e2, if_neg (by decide)]
  unfold halfH
  rw [h]
  dsimp only
  rw [if_pos h1]
theorem litF_succ (full : List UInt8 → Bool) (n : Nat) (l t : List UInt8) (u : Nat) : litF full (n + 1) l t u =
    if l = [] then .error 10
    else if (decodeL l).1 = 34 then .ok (t, u + 1)
    else if (decodeL l).1 = 92 then match escF (l.drop 1) with
      | .error k => .error k
      | .ok (c, m) => litF full n (l.drop m) (t ++ encB c) (u + m)
    else if (decodeL l).1 < 32 then .error 2
    else if decodeL l = (65533, 1) then .error (if full l then 9 else 10)
    else litF full n (l.drop (decodeL l).2) (t ++ encB (decodeL l).1) (u + (decodeL l).2) := rfl
theorem numbered_four (n : Nat) (h : n < 65536) (h2 : n < 55296 ∨ 57343 < n) (r : List UInt8) : escF ((fourL n ++ r).drop 1) = .ok (n, 6) := by
  show escF (117 :: (figB (n / 4096) :: figB (n / 256 % 16) :: figB (n / 16 % 16) :: figB (n % 16) :: r)) = _
  rw [escF_u]
  exact numberedF_one _ n (num_four 2 n h r) h2
theorem numbered_pair (c : Nat) (h : 65536 ≤ c) (h2 : c ≤ 1114111) (r : List UInt8) :
    escF ((fourL (55296 + (c - 65536) / 1024) ++ fourL (56320 + (c - 65536) % 1024) ++ r).drop 1) = .ok (c, 12) := by
  obtain ⟨a, ha⟩ : ∃ a, 55296 + (c - 65536) / 1024 = a := ⟨_, rfl⟩
  obtain ⟨b, hb⟩ : ∃ b, 56320 + (c - 65536) % 1024 = b := ⟨_, rfl⟩
  rw [ha, hb]
  show escF (117 :: (figB (a / 4096) :: figB (a / 256 % 16) :: figB (a / 16 % 16) :: figB (a % 16) :: (fourL b ++ r))) = _
  rw [escF_u]
  refine (numberedF_two _ a b (num_four 2 a (by omega) _) (by omega) (halfF_ok _ b (num_four 9 b (by omega) r) (by omega))).trans ?_
  have e : 65536 + (a - 55296) * 1024 + (b - 56320) = c := by omega
  rw [e]
/-- A sign's escape is read as that sign. -/
theorem lit_esc (full : List UInt8 → Bool) (narrow : Bool) (c : Nat) (h : okc c) (n : Nat) (r t : List UInt8) (u : Nat) :
    litF full (n + 1) (escP narrow c ++ r) t u = litF full n r (t ++ encB c) (u + (escP narrow c).length) := by
  unfold escP
  by_cases h1 : signsL.idxOf c < 7
  · rw [if_pos h1]
    have hm : c ∈ signsL := List.idxOf_lt_length_iff.1 h1
    have hd : decodeL (92 :: nb (lettersL.getD (signsL.idxOf c) 0) :: r) = (92, 1) := decodeL_ascii 92 _ (by decide)
    show litF full (n + 1) (92 :: nb (lettersL.getD (signsL.idxOf c) 0) :: r) t u = _
    rw [litF_succ, if_neg (by simp), hd, if_neg (by decide), if_pos rfl]
    have he : escF (nb (lettersL.getD (signsL.idxOf c) 0) :: r) = .ok (c, 2) := by
      simp only [signsL, List.mem_cons, List.not_mem_nil, or_false] at hm
      rcases hm with rfl | rfl | rfl | rfl | rfl | rfl | rfl <;> rfl
    rw [List.drop_succ_cons, List.drop_zero, he]
    rfl
  · rw [if_neg h1]
    have hns : c ≠ 34 ∧ c ≠ 92 := by
      constructor <;> (rintro rfl; exact h1 (by decide))
    by_cases h2 : 32 ≤ c ∧ (c < 127 ∨ narrow = false)
    · rw [if_pos h2]
      have hd := dec_enc c h r
      have hne : encB c ++ r ≠ [] := by
        intro e
        have := congrArg List.length e
        rw [List.length_append, encB_length] at this
        have := (widC_pos c).1
        simp at *
        omega
      rw [litF_succ, if_neg hne, hd, if_neg hns.1, if_neg hns.2, if_neg (by show ¬ c < 32; omega)]
      have hw : ¬ ((c, widC c) : Nat × Nat) = (65533, 1) := by
        intro e
        injection e with e1 e2
        subst e1
        exact absurd e2 (by decide)
      rw [if_neg hw]
      show litF full n ((encB c ++ r).drop (widC c)) _ _ = _
      rw [List.drop_left' (encB_length c), encB_length]
    · rw [if_neg h2]
      by_cases h3 : c < 65536
      · rw [if_pos h3]
        have hd : decodeL (fourL c ++ r) = (92, 1) := decodeL_ascii 92 _ (by decide)
        rw [litF_succ, if_neg (by simp [fourL]), hd, if_neg (by decide), if_pos rfl, numbered_four c h3 (by unfold okc at h; omega)]
        rfl
      · rw [if_neg h3]
        have hd : decodeL (fourL (55296 + (c - 65536) / 1024) ++ fourL (56320 + (c - 65536) % 1024) ++ r) = (92, 1) := decodeL_ascii 92 _ (by decide)
        rw [litF_succ, if_neg (by simp [fourL]), hd, if_neg (by decide), if_pos rfl, numbered_pair c (by omega) (by unfold okc at h; omega)]
        rfl
theorem lit_all (full : List UInt8 → Bool) (narrow : Bool) : ∀ (cs : List Nat) (_ : ∀ c ∈ cs, okc c) (n : Nat) (_ : cs.length < n) (r t : List UInt8) (u : Nat),
    litF full n (cs.flatMap (escP narrow) ++ 34 :: r) t u = .ok (t ++ flatC cs, u + (cs.flatMap (escP narrow)).length + 1)
  | [], _, n + 1, _, r, t, u => by
    have hd : decodeL ((34 : UInt8) :: r) = (34, 1) := decodeL_ascii 34 _ (by decide)
    show litF full (n + 1) (34 :: r) t u = _
    rw [litF_succ, if_neg (by simp), hd, if_pos rfl]
    simp [flatC]
  | c :: cs, h, n + 1, hn, r, t, u => by
    rw [List.flatMap_cons, List.append_assoc, lit_esc full narrow c (h c (by simp)), lit_all full narrow cs (fun x hx => h x (by simp [hx])) n (by simp at hn; omega), flatC_cons, List.length_append, List.append_assoc]
    congr 2
    omega
/-- What is quoted is unquoted, whatever stands behind. -/
theorem unq_quo (full : List UInt8 → Bool) (narrow : Bool) (cs : List Nat) (h : ∀ c ∈ cs, okc c) (r : List UInt8) :
    unqF full (quoP narrow cs ++ r) = .ok (flatC cs, (quoP narrow cs).length) := by
  unfold unqF quoP
  rw [if_neg (by simp), if_neg (by simp)]
  show litF full _ (cs.flatMap (escP narrow) ++ [34] ++ r) [] 1 = _
  rw [List.append_assoc, List.singleton_append, lit_all full narrow cs h]
  · simp
    omega
  · have : ∀ cs : List Nat, cs.length ≤ (cs.flatMap (escP narrow)).length := by
      intro cs
      induction cs with
      | nil => simp
      | cons c cs ih =>
        have hp : 1 ≤ (escP narrow c).length := by
          unfold escP
          split
          · simp
          · split
            · rw [encB_length]; exact (widC_pos c).1
            · split
              · rw [four_len]; omega
              · rw [List.length_append, four_len, four_len]; omega
        rw [List.flatMap_cons, List.length_append, List.length_cons]
        omega
    have := this cs
    simp only [List.length_cons, List.length_append, List.length_nil]
    omega
end Go.Proofs.YtanmkddmebhdpaaDoor
