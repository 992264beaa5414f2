/- Unpacking takes back what packing gives: a text packed in whatever mode is unpacked, whatever stands behind it, and is refused where the limit is too small. -/
import Derived.Test.YtpnnlhegncbfaaaGreatDoorBku
import Derived.Test.YtpnnlhegncbfaaaGreatDoorBkp
import Derived.Test.YtpnnlhegncbfaaaGreatDoorDfl
namespace Go.Proofs.YtpnnlhegncbfaaaGreatDoor
set_option maxRecDepth 20000

theorem fix_ok : okF (cnt fixA) ∧ okF (cnt fixB) := by decide +kernel
theorem room_drop {L X R : List UInt8} {p : Nat} (h : L.drop p = X ++ R) (hp : p ≤ L.length) : p + X.length ≤ L.length ∧ L.drop (p + X.length) = R := by
  have h1 := congrArg List.length h
  rw [List.length_drop, List.length_append] at h1
  refine ⟨by omega, ?_⟩
  rw [← List.drop_drop, h, List.drop_left]
/-- The sign whose code is next. -/
theorem sign_at {ls : List Nat} (hl : Low ls) (ho : okF (cnt ls)) {L R : List UInt8} (hb : Bin L) {p s : Nat} (hs : lenAt ls s ≠ 0) (hd : L.drop p = bitsO ls (s : Int) ++ R) (lim : Nat) (o : List UInt8) (st : Nat) :
    signX ls L lim ⟨p, o, st⟩ = .ok (s, ⟨p + lenAt ls s, o, st⟩) := by
  have hB : bitsO ls (s : Int) = (lowB (codeAt ls s) (lenAt ls s)).reverse := by unfold bitsO; rw [lenI_nat, codeI_nat]
  have hlen : (bitsO ls (s : Int)).length = lenAt ls s := by rw [hB, List.length_reverse, lowB_length]
  have hit : hitP ls (L.drop p) s := by
    refine ⟨hs, ?_, ?_⟩
    · rw [hd, List.length_append, hlen]; omega
    · rw [hd, List.take_left' hlen, hB]
      exact hiB_low _ _ (code_pow hl ho s)
  have hO := tkO_hit (hb.drop p) hit
  unfold signX
  have e1 : tkE ls (L.drop p) = 0 := by unfold tkE; rw [hO]
  have e2 : tkN ls (L.drop p) = lenAt ls s := by unfold tkN; rw [hO]
  have e3 : tkS ls (L.drop p) = s := by unfold tkS; rw [hO]; rfl
  simp only [e1, e2, e3]
  rw [if_neg (by decide)]
/-- The number whose bits are next. -/
theorem num_at {L R : List UInt8} {p n x : Nat} (hd : L.drop p = lowB x n ++ R) (hp : p ≤ L.length) (hx : x < 2 ^ n) (lim : Nat) (o : List UInt8) (st : Nat) :
    numX n L lim ⟨p, o, st⟩ = .ok (x, ⟨p + n, o, st⟩) := by
  have h1 := (room_drop hd hp).1
  rw [lowB_length] at h1
  unfold numX
  rw [if_neg (by show ¬ L.length < p + n; omega)]
  show Except.ok (numB ((L.drop p).take n), _) = _
  rw [hd, List.take_left' (lowB_length _ _), numB_lowB, Nat.mod_eq_of_lt hx]
theorem lenL (L : Nat) (h1 : 3 ≤ L) (h2 : L ≤ 258) : ∃ S, 257 ≤ S ∧ S ≤ 285 ∧ lenBase S ≤ L ∧ L - lenBase S < 2 ^ lenMore S ∧ lenB L = bitsO fixA (S : Nat) ++ lowB (L - lenBase S) (lenMore S) := by
  by_cases h : L = 258
  · subst h
    refine ⟨285, by decide, by decide, by rw [len_258.1]; decide, by rw [len_258.1, len_258.2]; decide, ?_⟩
    rw [len_258.1, len_258.2]
    unfold lenB
    rw [if_pos rfl]
    simp [lowB]
  · obtain ⟨a, b, c, d, e⟩ := len_tells L (by omega) h1
    refine ⟨sgn 257 (L - 3) 2, a, by omega, c, by rw [d, e]; exact Nat.mod_lt _ (Nat.two_pow_pos _), ?_⟩
    unfold lenB
    rw [if_neg h, d, e]
theorem distL (D : Nat) (h1 : 1 ≤ D) (h2 : D ≤ 32768) : ∃ S, S ≤ 29 ∧ distSum S ≤ D ∧ D - distSum S < 2 ^ distMore S ∧ distB D = bitsO fixB (S : Nat) ++ lowB (D - distSum S) (distMore S) := by
  obtain ⟨a, b, c, d, e, f⟩ := dist_tells (x := D - 1) (by omega)
  rw [show D - 1 + 1 = D by omega] at b c
  exact ⟨sgn 0 (D - 1) 1, a, b, by rw [c, d]; exact Nat.mod_lt _ (Nat.two_pow_pos _), by unfold distB; rw [c, d]⟩
theorem copyL_copyN (d : Nat) : ∀ k o, copyL d k o = copyN d k o
  | 0, _ => rfl
  | k + 1, o => by rw [copyL, copyN, copyL_copyN d k]
theorem len256 : lenAt fixA 256 = 7 := by decide +kernel
/-- A token's letter. -/
theorem letter_tok {L R : List UInt8} {p : Nat} {t : Tk} (hb : Bin L) (hg : goodT t) {o : List UInt8} (hfar : t.l ≠ 0 → t.d ≤ (o.length : Int)) (hd : L.drop p = tokB t ++ R) (hp : p ≤ L.length) (lim st : Nat) :
    letterX fixA fixB L lim ⟨p, o, st⟩ = if lim < (putT t o).length then .error 3 else .ok (false, ⟨p + (tokB t).length, putT t o, st + 1⟩) := by
  unfold letterX
  refine ok_bind (a := ()) (s1 := ⟨p, o, st + 1⟩) rfl ?_
  by_cases h0 : t.l = 0
  · have hB : tokB t = bitsO fixA (t.b.toNat : Nat) := by unfold tokB; rw [if_pos h0]
    have hP : putT t o = o ++ [t.b] := by unfold putT; rw [if_pos h0]
    rw [hB] at hd ⊢
    rw [hP]
    have hlt := t.b.toNat_lt
    have hs := fixA_len t.b.toNat (by omega)
    refine ok_bind (sign_at fix_low.1 fix_ok.1 hb hs hd lim o (st + 1)) ?_
    rw [if_neg (by omega), if_pos (by omega)]
    unfold bindX putX
    rw [bitsO_length, lenI_nat]
    have hl : (o ++ [t.b]).length = o.length + 1 := by simp
    rw [hl]
    by_cases hc : lim < o.length + 1
    · rw [if_pos hc, if_pos hc]
    · rw [if_neg hc, if_neg hc]
      simp [pureX]
  · obtain ⟨g1, g2, g3, g4⟩ : 3 ≤ t.l ∧ t.l ≤ 258 ∧ 1 ≤ t.d ∧ t.d ≤ 32768 := by
      rcases hg with h | h
      · exact absurd h h0
      · exact h
    obtain ⟨S, s1, s2, s3, s4, s5⟩ := lenL t.l.toNat (by omega) (by omega)
    obtain ⟨T, t1, t2, t3, t4⟩ := distL t.d.toNat (by omega) (by omega)
    have hB : tokB t = bitsO fixA (S : Nat) ++ (lowB (t.l.toNat - lenBase S) (lenMore S) ++ (bitsO fixB (T : Nat) ++ lowB (t.d.toNat - distSum T) (distMore T))) := by
      unfold tokB; rw [if_neg h0, s5, t4]; simp
    have hP : putT t o = copyN t.d.toNat t.l.toNat o := by unfold putT; rw [if_neg h0]
    have hfar := hfar h0
    rw [hB] at hd ⊢
    rw [hP, copyN_length]
    rw [List.append_assoc] at hd
    have r1 := room_drop hd hp
    rw [bitsO_length, lenI_nat, List.append_assoc] at r1
    have r2 := room_drop r1.2 r1.1
    rw [lowB_length, List.append_assoc] at r2
    have r3 := room_drop r2.2 r2.1
    rw [bitsO_length, lenI_nat] at r3
    refine ok_bind (sign_at fix_low.1 fix_ok.1 hb (fixA_len S (by omega)) hd lim o (st + 1)) ?_
    rw [if_neg (by omega), if_neg (by omega), if_neg (by omega)]
    refine ok_bind (num_at r1.2 r1.1 s4 lim o (st + 1)) ?_
    refine ok_bind (sign_at fix_low.2 fix_ok.2 hb (fixB_len T (by omega)) r2.2 lim o (st + 1)) ?_
    rw [if_neg (by omega)]
    refine ok_bind (num_at r3.2 r3.1 t3 lim o (st + 1)) ?_
    unfold bindX copyX
    rw [show lenBase S + (t.l.toNat - lenBase S) = t.l.toNat by omega, show distSum T + (t.d.toNat - distSum T) = t.d.toNat by omega, copyL_copyN]
    rw [if_neg (by show ¬ o.length < t.d.toNat; omega)]
    by_cases hc : lim < o.length + t.l.toNat
    · rw [if_pos hc, if_pos hc]
    · rw [if_neg hc, if_neg hc]
      simp only [pureX, List.length_append, bitsO_length, lenI_nat, lowB_length]
      rw [show p + lenAt fixA S + lenMore S + lenAt fixB T + distMore T = p + (lenAt fixA S + (lenMore S + (lenAt fixB T + distMore T))) by omega]
theorem loop_toks {l : List UInt8} (hl : l.length ≤ 1000000) {L : List UInt8} (hb : Bin L) (lim : Nat) (R : List UInt8) : ∀ (F q : Nat), q ≤ l.length → l.length - q ≤ F → ∀ (K p st : Nat), p ≤ L.length →
    L.drop p = (toksF l F q).flatMap tokB ++ (bitsO fixA (256 : Nat) ++ R) → (toksF l F q).length < K → q ≤ lim →
    loopX (letterX fixA fixB) K L lim ⟨p, l.take q, st⟩ = if lim < l.length then .error 3 else .ok ((), ⟨p + ((toksF l F q).flatMap tokB).length + 7, l, st + (toksF l F q).length + 1⟩) := by
  have fin : ∀ (K p st : Nat), p ≤ L.length → L.drop p = bitsO fixA (256 : Nat) ++ R → 0 < K → loopX (letterX fixA fixB) K L lim ⟨p, l, st⟩ = .ok ((), ⟨p + 7, l, st + 1⟩) := fun K p st hp hd hK => by
    obtain ⟨k, rfl⟩ : ∃ k, K = k + 1 := ⟨K - 1, by omega⟩
    have hs := sign_at fix_low.1 fix_ok.1 hb (fixA_len 256 (by decide)) hd lim l (st + 1)
    rw [len256] at hs
    refine ok_bind (a := true) (s1 := ⟨p + 7, l, st + 1⟩) ?_ rfl
    unfold letterX
    refine ok_bind (a := ()) (s1 := ⟨p, l, st + 1⟩) rfl (ok_bind hs ?_)
    rw [if_pos rfl]; rfl
  intro F
  induction F with
  | zero =>
    intro q h1 h2 K p st hp hd hK hq
    have hqe : q = l.length := by omega
    subst hqe
    rw [if_neg (by omega), List.take_length]
    exact fin K p st hp hd hK
  | succ F ih =>
    intro q h1 h2 K p st hp hd hK hq
    unfold toksF at hd hK ⊢
    by_cases hc : q < l.length
    · rw [if_pos hc] at hd hK ⊢
      obtain ⟨a, b, c⟩ := step_take hc hl
      rw [List.flatMap_cons, List.append_assoc] at hd
      obtain ⟨k, rfl⟩ : ∃ k, K = k + 1 := ⟨K - 1, by simp at hK; omega⟩
      have hlet := letter_tok hb (tok_good l q) (o := l.take q) (fun h => (refuse_ok a h).2.2.2.2.1) hd hp lim st
      rw [b] at hlet
      have hs : (l.take (q + stepT l q)).length = q + stepT l q := by rw [List.length_take]; omega
      rw [hs] at hlet
      have hst : 1 ≤ stepT l q := by unfold stepT; omega
      unfold loopX
      by_cases hlim : lim < q + stepT l q
      · rw [if_pos hlim] at hlet
        unfold bindX
        rw [hlet, if_pos (by omega)]
      · rw [if_neg hlim] at hlet
        refine ok_bind hlet ?_
        have r := room_drop hd hp
        have := ih (q + stepT l q) c (by omega) k (p + (tokB (tokAt l q)).length) (st + 1) r.1 r.2 (by simp at hK; omega) (by omega)
        rw [if_neg (by decide), this]
        simp only [List.flatMap_cons, List.length_append, List.length_cons]
        rw [show p + (tokB (tokAt l q)).length + ((toksF l F (q + stepT l q)).flatMap tokB).length + 7 = p + ((tokB (tokAt l q)).length + ((toksF l F (q + stepT l q)).flatMap tokB).length) + 7 by omega,
          show st + 1 + (toksF l F (q + stepT l q)).length + 1 = st + ((toksF l F (q + stepT l q)).length + 1) + 1 by omega]
    · have hqe : q = l.length := by omega
      subst hqe
      rw [if_neg hc] at hd hK ⊢
      rw [if_neg (by omega), List.take_length]
      exact fin K p st hp hd hK
theorem infl_tok {l : List UInt8} (hl : l.length ≤ 1000000) {R : List UInt8} (hb : Bin (fixedM l ++ R)) {F : Nat} (hF : (toksT l).length + 1 ≤ F) (lim : Nat) :
    inflF F (fixedM l ++ R) lim = if lim < l.length then .error 3 else .ok ((), ⟨(fixedM l).length, l, (toksT l).length + 2⟩) := by
  obtain ⟨k, rfl⟩ : ∃ k, F = k + 1 := ⟨F - 1, by omega⟩
  have hL : fixedM l ++ R = [1, 1, 0] ++ ((toksF l l.length 0).flatMap tokB ++ (bitsO fixA (256 : Nat) ++ R)) := by
    unfold fixedM toksT; simp
  have hlen : (fixedM l).length = 3 + ((toksF l l.length 0).flatMap tokB).length + 7 := by
    unfold fixedM toksT
    simp only [List.length_append, bitsO_length, lenI_nat, len256, List.length_cons, List.length_nil]
  have h3 : 3 ≤ (fixedM l ++ R).length := by rw [hL]; simp
  have n1 : numX 1 (fixedM l ++ R) lim ⟨0, [], 1⟩ = .ok (1, ⟨1, [], 1⟩) := by
    unfold numX
    rw [if_neg (by show ¬ (fixedM l ++ R).length < 0 + 1; omega)]
    rw [hL]; rfl
  have n2 : numX 2 (fixedM l ++ R) lim ⟨1, [], 1⟩ = .ok (1, ⟨3, [], 1⟩) := by
    unfold numX
    rw [if_neg (by show ¬ (fixedM l ++ R).length < 1 + 2; omega)]
    rw [hL]; rfl
  have hd : (fixedM l ++ R).drop 3 = (toksF l l.length 0).flatMap tokB ++ (bitsO fixA (256 : Nat) ++ R) := by rw [hL]; rfl
  have hm := loop_toks hl hb lim R l.length 0 (Nat.zero_le _) (by omega) (k + 1) 3 1 h3 hd (by unfold toksT at hF; omega) (Nat.zero_le _)
  have hk : kindX (k + 1) 1 (fixedM l ++ R) lim ⟨3, [], 1⟩ = if lim < l.length then .error 3 else .ok ((), ⟨(fixedM l).length, l, (toksT l).length + 2⟩) := by
    show loopX (letterX fixA fixB) (k + 1) _ _ _ = _
    rw [List.take_zero] at hm
    rw [hm, ← hlen]
    unfold toksT
    rw [show 1 + (toksF l l.length 0).length + 1 = (toksF l l.length 0).length + 2 by omega]
  have hblk : blockX (k + 1) (fixedM l ++ R) lim ⟨0, [], 0⟩ = if lim < l.length then .error 3 else .ok (true, ⟨(fixedM l).length, l, (toksT l).length + 2⟩) := by
    refine ok_bind (a := ()) (s1 := ⟨0, [], 1⟩) rfl (ok_bind n1 (ok_bind n2 ?_))
    unfold bindX
    rw [hk]
    by_cases hc : lim < l.length
    · rw [if_pos hc, if_pos hc]
    · rw [if_neg hc, if_neg hc]; rfl
  unfold inflF loopX bindX
  rw [hblk]
  by_cases hc : lim < l.length
  · rw [if_pos hc, if_pos hc]
  · rw [if_neg hc, if_neg hc]; rfl
theorem bits_text {M : List UInt8} (h : Bin M) : (bitsL (textB M)).take M.length = M := by
  have inj : ∀ (a b : List UInt8), Bin a → Bin b → a.length = b.length → numB a = numB b → a = b := by
    intro a
    induction a with
    | nil => intro b _ _ hl _; cases b with | nil => rfl | cons y b => simp at hl
    | cons x a ih =>
      intro b ha hb hl hn
      cases b with
      | nil => simp at hl
      | cons y b =>
        simp only [numB] at hn
        have hx := ha x (by simp)
        have hy := hb y (by simp)
        have h1 : x = y := UInt8.toNat_inj.1 (by omega)
        subst h1
        rw [ih b (fun z hz => ha z (List.mem_cons_of_mem _ hz)) (fun z hz => hb z (List.mem_cons_of_mem _ hz)) (by simpa using hl) (by omega)]
  have hl : M.length ≤ (bitsL (textB M)).length := by rw [bitsL_length, textB_length]; omega
  refine inj _ _ ((bin_bitsL _).take _) h (by rw [List.length_take]; omega) ?_
  have := numB_part (bin_bitsL (textB M)) 0 M.length (by omega)
  rw [List.drop_zero, Nat.pow_zero, Nat.div_one, numB_bitsL, numL_textB h, Nat.mod_eq_of_lt (numB_lt h)] at this
  exact this
theorem bin_tokB' (t : Tk) : Bin (tokB t) := by
  unfold tokB
  split
  · exact bin_bitsO _ _
  · refine Bin.append ?_ ?_
    · unfold lenB
      split
      · exact bin_bitsO _ _
      · exact (bin_bitsO _ _).append (bin_lowB _ _)
    · exact (bin_bitsO _ _).append (bin_lowB _ _)
theorem bin_flat' : ∀ D : List Tk, Bin (D.flatMap tokB)
  | [] => bin_lowB 0 0
  | t :: D => by rw [List.flatMap_cons]; exact (bin_tokB' t).append (bin_flat' D)
theorem bin_fixed (l : List UInt8) : Bin (fixedM l) := by
  unfold fixedM
  refine Bin.append (Bin.append ?_ (bin_flat' _)) (bin_bitsO _ _)
  intro b hb
  revert b
  decide
theorem tok_one (t : Tk) (h : goodT t) : 1 ≤ (tokB t).length := by
  unfold tokB
  split
  · rw [bitsO_length, lenI_nat]
    have := fixA_len t.b.toNat (by have := t.b.toNat_lt; omega)
    omega
  · rename_i h0
    obtain ⟨g1, g2, g3, g4⟩ : 3 ≤ t.l ∧ t.l ≤ 258 ∧ 1 ≤ t.d ∧ t.d ≤ 32768 := by
      rcases h with h | h
      · exact absurd h h0
      · exact h
    obtain ⟨S, s1, s2, s3, s4, s5⟩ := lenL t.l.toNat (by omega) (by omega)
    rw [List.length_append, s5, List.length_append, bitsO_length, lenI_nat]
    have := fixA_len S (by omega)
    omega
theorem flat_more (D : List Tk) (h : ∀ t ∈ D, goodT t) : D.length ≤ (D.flatMap tokB).length := by
  induction D with
  | nil => simp
  | cons t D ih =>
    have h1 := tok_one t (h t (by simp))
    have h2 := ih (fun x hx => h x (List.mem_cons_of_mem _ hx))
    simp only [List.flatMap_cons, List.length_append, List.length_cons]; omega
/-- A text that was packed, and whatever stands behind: what it comes to. -/
theorem infl_pack {l : List UInt8} (hl : l.length ≤ 65535) (z : Int) (T : List UInt8) (lim : Nat) :
    (lim < l.length → inflF (8 * (packT l z ++ T).length + 1) (bitsL (packT l z ++ T)) lim = .error 3) ∧
    (l.length ≤ lim → ∃ s, inflF (8 * (packT l z ++ T).length + 1) (bitsL (packT l z ++ T)) lim = .ok ((), s) ∧ s.out = l ∧ (s.pos + 7) / 8 = (packT l z).length) := by
  have hplain : ∀ lim, inflF (8 * (plainT l ++ T).length + 1) (bitsL (plainT l ++ T)) lim = if lim < l.length then .error 3 else .ok ((), ⟨8 * (plainT l).length, l, 1 + l.length⟩) := fun lim => by
    have hbk : plainT l = blk 1 l := rfl
    have e1 := block_blk (l := blk 1 l ++ T) (q := 0) (i := 1) (x := l) (r := T) rfl (by decide) (by omega) (8 * (blk 1 l ++ T).length + 1) lim [] 0
    rw [hbk, blk_length]
    unfold inflF
    show bindX (blockX _) _ _ lim ⟨8 * 0, [], 0⟩ = _
    unfold bindX
    rw [e1]
    by_cases hc : lim < l.length
    · rw [if_pos (by simpa using hc), if_pos hc]
    · rw [if_neg (by simpa using hc), if_neg hc]
      simp [pureX]
      omega
  have htok : ∀ lim, inflF (8 * (tokT l ++ T).length + 1) (bitsL (tokT l ++ T)) lim = if lim < l.length then .error 3 else .ok ((), ⟨(fixedM l).length, l, (toksT l).length + 2⟩) := fun lim => by
    have h1 : bitsL (tokT l ++ T) = fixedM l ++ ((bitsL (textB (fixedM l))).drop (fixedM l).length ++ bitsL T) := by
      unfold tokT
      rw [bitsL_append]
      conv => lhs; rw [← List.take_append_drop (fixedM l).length (bitsL (textB (fixedM l)))]
      rw [bits_text (bin_fixed l), List.append_assoc]
    have hb : Bin (bitsL (tokT l ++ T)) := bin_bitsL _
    rw [h1] at hb
    have hF : (toksT l).length + 1 ≤ 8 * (tokT l ++ T).length + 1 := by
      have g1 := flat_more (toksT l) (toks_good l _ _)
      have g2 : (tokT l).length = ((fixedM l).length + 7) / 8 := textB_length _
      have g3 : ((toksT l).flatMap tokB).length ≤ (fixedM l).length := by unfold fixedM; simp only [List.length_append]; omega
      rw [List.length_append]
      omega
    rw [h1]
    exact infl_tok (by omega) hb hF lim
  have hboth : packT l z = plainT l ∨ packT l z = tokT l := by
    unfold packT
    split
    · exact .inl rfl
    · split
      · exact .inr rfl
      · split
        · exact .inl rfl
        · exact .inr rfl
  rcases hboth with e | e
  · rw [e, hplain lim]
    exact ⟨fun h => if_pos h, fun h => ⟨_, if_neg (by omega), rfl, by show (8 * (plainT l).length + 7) / 8 = _; omega⟩⟩
  · rw [e, htok lim]
    refine ⟨fun h => if_pos h, fun h => ⟨_, if_neg (by omega), rfl, ?_⟩⟩
    exact (textB_length _).symm
end Go.Proofs.YtpnnlhegncbfaaaGreatDoor
