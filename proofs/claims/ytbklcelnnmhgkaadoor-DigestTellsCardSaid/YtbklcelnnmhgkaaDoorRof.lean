/- Contract of the reference's Of. -/
import Derived.Test.YtbklcelnnmhgkaaDoorPrm
import Derived.Test.YtbklcelnnmhgkaaDoorSum
namespace Go.Proofs.YtbklcelnnmhgkaaDoor
open Go.RowKit

theorem cube_at (i : Nat) (h : i < 64) : cubeP (nthN P64 i) = nth KT i := by
  have h1 := congrArg (fun l => nth l i) cubes
  have h2 : i < P64.length := h
  simp only [nth, List.getD, List.getElem?_map, List.getElem?_eq_getElem h2, Option.map_some, Option.getD_some] at h1
  rw [nth, List.getD, ← h1]
  simp [nthN, List.getElem?_eq_getElem h2]
theorem square_at (i : Nat) (h : i < 8) : squareP (nthN P64 i) = nth S0.list i ∧ nthN P64 i < 20 := by
  have : ∀ i : Fin 8, squareP (nthN P64 i.val) = nth S0.list i.val ∧ nthN P64 i.val < 20 := by decide +kernel
  exact this ⟨i, h⟩

def kSet (i : Nat) (L : List UInt32) : List UInt32 := L.set i (nth KT i)
def sSet (i : Nat) (L : List UInt32) : List UInt32 := if i < 8 then L.set i (nth S0.list i) else L
def zero8 : List UInt32 := List.replicate 8 0
theorem k_all : upto kSet 64 zeros = KT := by decide +kernel
theorem s_all : upto sSet 64 zero8 = S0.list := by decide +kernel
theorem kSet_len (n : Nat) : (upto kSet n zeros).length = 64 := by rw [upto_length (fun i L => by simp [kSet])]; rfl
theorem sSet_len (n : Nat) : (upto sSet n zero8).length = 8 := by
  rw [upto_length (fun i L => by unfold sSet; split <;> simp)]; rfl

theorem info24 : (Tryd.prog.info? 23).map (fun i => (i.zero, i.size)) = some (some (.agg (u8s (List.replicate 32 0))), 32) := by kernel_rfl
theorem size24 : (Tryd.prog.info? 23).map (·.size) = some 32 := by kernel_rfl

/-- What the first loop keeps. -/
structure KR (w : World) (gr gs gk : Nat) (S K : List UInt32) (v : Value) (wr : World) : Prop where
  res : Row wr gr (u8s (List.replicate 32 0)) 23
  rs : Row wr gs (u32s S) 52
  rk : Row wr gk (u32s K) 53
  own : OwnI wr (w.heap.size + 1) v (zs P64)
  below : Below w.heap.size w wr

theorem built41z : Tryd.prog.built 52 [] = some (u32s zero8) := by kernel_rfl
theorem built42z : Tryd.prog.built 53 [] = some (u32s zeros) := by kernel_rfl
theorem built24z : Tryd.prog.built 23 [] = some (u8s (List.replicate 32 0)) := by kernel_rfl
theorem info41z : (Tryd.prog.info? 52).map (fun i => (i.zero, i.size)) = some (some (.agg (u32s zero8)), 8) := info41

theorem KR.after {w : World} {gr gs gk : Nat} {S K : List UInt32} {v : Value} {wr w' : World} (h : KR w gr gs gk S K v wr) (hb : Below wr.heap.size wr w') : KR w gr gs gk S K v w' :=
  ⟨h.res.below hb h.res.lt, h.rs.below hb h.rs.lt, h.rk.below hb h.rk.lt, World.ownsRow.kept h.own (show wr.grownBy w' none from ⟨hb.os, hb.tape, hb.output, hb.size, fun k hk _ => hb.block k hk⟩) (by rcases hv : v.ownBlock with _ | k; exact .inl rfl; exact .inr (by simp)), h.below.trans (hb.mono h.below.size)⟩
theorem KR.setK {w : World} {gr gs gk : Nat} {S K : List UInt32} {v : Value} {wr : World} (h : KR w gr gs gk S K v wr) (h1 : gr ≠ gk) (h2 : gs ≠ gk) (h3 : v.ownBlock ≠ some gk) (h4 : w.heap.size ≤ gk) (i : Nat) (x : UInt32) :
    KR w gr gs gk S (K.set i x) v (wr.setCell ⟨gk, i, none⟩ (U32 x)) := by
  refine ⟨h.res.other h1 _ _, h.rs.other h2 _ _, ?_, World.ownsRow.kept h.own (grown_setCell wr gk i _) (.inr h3), h.below.setCell h4 _⟩
  have := h.rk.set i (U32 x)
  rwa [u32s_set] at this
theorem KR.setS {w : World} {gr gs gk : Nat} {S K : List UInt32} {v : Value} {wr : World} (h : KR w gr gs gk S K v wr) (h1 : gr ≠ gs) (h2 : gk ≠ gs) (h3 : v.ownBlock ≠ some gs) (h4 : w.heap.size ≤ gs) (i : Nat) (x : UInt32) :
    KR w gr gs gk (S.set i x) K v (wr.setCell ⟨gs, i, none⟩ (U32 x)) := by
  refine ⟨h.res.other h1 _ _, ?_, h.rk.other h2 _ _, World.ownsRow.kept h.own (grown_setCell wr gs i _) (.inr h3), h.below.setCell h4 _⟩
  have := h.rs.set i (U32 x)
  rwa [u32s_set] at this

/-- What stands while the text is filled, and while blocks are taken. -/
structure TR (w : World) (gs gk B : Nat) (S : List UInt32) (v : Value) (T : List UInt8) (wr : World) : Prop where
  res : Row wr w.heap.size (u8s (List.replicate 32 0)) 23
  rs : Row wr gs (u32s S) 52
  rk : Row wr gk (u32s KT) 53
  own : Own wr B v T
  below : Below w.heap.size w wr
  size : B ≤ wr.heap.size
theorem TR.push {w : World} {gs gk B : Nat} {S : List UInt32} {v v' : Value} {T T' : List UInt8} {wr w' : World} (h : TR w gs gk B S v T wr) (hg : w.heap.size < gs ∧ gs < gk) (hB : gk < B) (ho : Own w' B v' T') (hw : wr.grownBy w' v.ownBlock) : TR w gs gk B S v' T' w' := by
  have hk : ∀ k, v.ownBlock = some k → B ≤ k := fun k hk => (World.ownsRow.lt h.own k hk).1
  exact ⟨h.res.grown hw (fun e => by have := hk _ e.symm; omega), h.rs.grown hw (fun e => by have := hk _ e.symm; omega), h.rk.grown hw (fun e => by have := hk _ e.symm; omega), ho, h.below.grown hw h.below.size (fun k e => by have := hk k e; omega), Nat.le_trans h.size hw.size⟩

theorem be64_val2 (n q : Nat) (hq : q ≤ 7) : (n : Int) * 8 / 2 ^ (q * 8) % 256 = ((be64 (n * 8) (7 - q)).toNat : Int) := by
  have := be64_val n (7 - q)
  rwa [show 56 - 8 * (7 - q) = q * 8 by omega] at this

/-- The block of a text. -/
def blkOf (T : List UInt8) (b : Nat) : List UInt8 := (T.drop (64 * b)).take 64
def stP (T : List UInt8) (b : Nat) : S8 := upto (fun b s => mixP s (blkOf T b)) b S0
def refP (l : List UInt8) : List UInt8 := outL (stP (l ++ fillP l.length) ((l ++ fillP l.length).length / 64))

/-- And the words of a block. -/
structure WT (w : World) (gs gk B gw : Nat) (S : List UInt32) (v : Value) (T : List UInt8) (L : List UInt32) (wr : World) : Prop where
  tr : TR w gs gk B S v T wr
  row : Row wr gw (u32s L) 53
  ne : v.ownBlock ≠ some gw
theorem WT.step {w : World} {gs gk B gw : Nat} {S : List UInt32} {v : Value} {T : List UInt8} {L : List UInt32} {wr : World} (h : WT w gs gk B gw S v T L wr) (hg : w.heap.size < gs ∧ gs < gk) (hw : gk < gw) (i : Nat) (x : UInt32) (n : Int) (hn : n = (x.toNat : Int)) :
    WT w gs gk B gw S v T (L.set i x) (wr.setCell ⟨gw, i, none⟩ (.int .u32 n)) := by
  subst hn
  have hs := grown_setCell wr gw i (U32 x)
  refine ⟨⟨h.tr.res.other (by omega) _ _, h.tr.rs.other (by omega) _ _, h.tr.rk.other (by omega) _ _, World.ownsRow.kept h.tr.own hs (.inr h.ne), h.tr.below.setCell (show w.heap.size ≤ gw by omega) _, Nat.le_trans h.tr.size hs.size⟩, ?_, h.ne⟩
  have := h.row.set i (U32 x)
  rwa [u32s_set] at this
theorem TR.drewN {w : World} {gs gk B : Nat} {S : List UInt32} {v : Value} {T : List UInt8} {wr : World} (h : TR w gs gk B S v T wr) (n : Nat) : TR w gs gk B S v T (wr.drewN n) :=
  ⟨h.res, h.rs, h.rk, h.own, ⟨h.below.os, h.below.tape, h.below.output, h.below.size, h.below.block⟩, h.size⟩
theorem WT.drewN {w : World} {gs gk B gw : Nat} {S : List UInt32} {v : Value} {T : List UInt8} {L : List UInt32} {wr : World} (h : WT w gs gk B gw S v T L wr) (n : Nat) : WT w gs gk B gw S v T L (wr.drewN n) := ⟨h.tr.drewN n, h.row, h.ne⟩
theorem WT.drew {w : World} {gs gk B gw : Nat} {S : List UInt32} {v : Value} {T : List UInt8} {L : List UInt32} {wr : World} (h : WT w gs gk B gw S v T L wr) : WT w gs gk B gw S v T L wr.drew := h.drewN 1

/-- The words behind i rounds of the loop that makes them. -/
def wAt (blk : List UInt8) (i : Nat) : List UInt32 := if i ≤ 16 then upto (fillStep blk) (4 * i) zeros else upto (fun i => expStep (16 + i)) (i - 16) (fillL blk)
theorem wAt_len (blk : List UInt8) (i : Nat) : (wAt blk i).length = 64 := by
  unfold wAt; split
  · exact fill_length blk _
  · exact exp_length blk _
theorem wAt_exp (blk : List UInt8) (i : Nat) (h : 16 ≤ i) : wAt blk (i + 1) = expStep i (wAt blk i) := by
  unfold wAt
  rw [if_neg (by omega)]
  by_cases h16 : i = 16
  · subst h16; rfl
  · rw [if_neg (by omega), show i + 1 - 16 = (i - 16) + 1 by omega]
    show expStep (16 + (i - 16)) _ = _
    rw [show 16 + (i - 16) = i by omega]
theorem wAt_all (blk : List UInt8) : wAt blk 64 = wordsL blk := rfl
theorem fill_val2 (x : UInt32) (y : UInt8) : a32 (shl x 8) (UInt32.ofNat y.toNat) = shl x 8 ||| UInt32.ofNat y.toNat := by
  apply UInt32.toNat_inj.1
  have hy : y.toNat < 256 := y.toNat_lt
  have h1 : (shl x 8).toNat = x.toNat * 256 % 4294967296 := by rw [shl, UInt32.toNat_ofNat']
  have h2 : (UInt32.ofNat y.toNat).toNat = y.toNat := by rw [UInt32.toNat_ofNat']; omega
  rw [a32, UInt32.toNat_add, UInt32.toNat_or, h1, h2]
  have h3 : x.toNat * 256 % 4294967296 = 2 ^ 8 * (x.toNat % 16777216) := by omega
  rw [h3, Nat.two_pow_add_eq_or_of_lt (by omega : y.toNat < 2 ^ 8)] 
  rw [← Nat.two_pow_add_eq_or_of_lt (by omega : y.toNat < 2 ^ 8)]
  omega

theorem ch_or (e f g : UInt32) : o32 (c32 e f) (c32 (n32 e) g) = x32 (c32 e f) (c32 (n32 e) g) := by
  unfold o32 x32 c32 n32
  apply UInt32.toBitVec_inj.1
  apply BitVec.eq_of_getLsbD_eq
  intro i hi
  simp [hi]
  generalize e.toBitVec[i] = x
  generalize f.toBitVec[i] = y
  generalize g.toBitVec[i] = z
  cases x <;> cases y <;> cases z <;> rfl
theorem maj_or (a b c : UInt32) : o32 (o32 (c32 a b) (c32 a c)) (c32 b c) = x32 (x32 (c32 a b) (c32 a c)) (c32 b c) := by
  unfold o32 x32 c32
  apply UInt32.toBitVec_inj.1
  apply BitVec.eq_of_getLsbD_eq
  intro i hi
  simp
  cases a.toBitVec.getLsbD i <;> cases b.toBitVec.getLsbD i <;> cases c.toBitVec.getLsbD i <;> rfl
theorem exp_comm (a b c d : UInt32) : a32 (a32 (a32 a b) c) d = a + c + b + d := by
  unfold a32
  rw [UInt32.add_assoc a b c, UInt32.add_comm b c, ← UInt32.add_assoc]

/-- The rounds' numbers are added to the state. -/
def addS (tl : List UInt32) (i : Nat) (L : List UInt32) : List UInt32 := L.set i (a32 (nth L i) (nth tl i))
theorem addS_len (tl : List UInt32) (n : Nat) (L : List UInt32) : (upto (addS tl) n L).length = L.length := upto_length (fun i L => by simp [addS]) n L
theorem addS_all (s t : S8) : upto (addS t.list) 8 s.list = (s.add t).list := by
  obtain ⟨a, b, c, d, e, f, g, h⟩ := s
  obtain ⟨a', b', c', d', e', f', g', h'⟩ := t
  kernel_rfl
structure AT (w : World) (gs gk B g8 : Nat) (S : List UInt32) (v : Value) (T : List UInt8) (tl : List UInt32) (wr : World) : Prop where
  tr : TR w gs gk B S v T wr
  row : Row wr g8 (u32s tl) 51
theorem AT.step {w : World} {gs gk B g8 : Nat} {S : List UInt32} {v : Value} {T : List UInt8} {tl : List UInt32} {wr : World} (h : AT w gs gk B g8 S v T tl wr) (hg : w.heap.size < gs ∧ gs < gk) (hB : gk < B) (h8 : gk < g8) (i : Nat) (x : UInt32) (n : Int) (hn : n = (x.toNat : Int)) :
    AT w gs gk B g8 (S.set i x) v T tl (wr.setCell ⟨gs, i, none⟩ (.int .u32 n)) := by
  subst hn
  have hs := grown_setCell wr gs i (U32 x)
  have hk : ∀ k, v.ownBlock = some k → B ≤ k := fun k hk => (World.ownsRow.lt h.tr.own k hk).1
  have h1 := h.tr.rs.set i (U32 x)
  rw [u32s_set] at h1
  exact ⟨⟨h.tr.res.other (by omega) _ _, h1, h.tr.rk.other (by omega) _ _, World.ownsRow.kept h.tr.own hs (.inr (fun e => by have := hk _ e; omega)), h.tr.below.setCell (show w.heap.size ≤ gs by omega) _, Nat.le_trans h.tr.size hs.size⟩, h.row.other (by omega) _ _⟩
/-- What the last loop keeps. -/
structure FR (w : World) (gs go : Nat) (s : S8) (L : List UInt8) (wr : World) : Prop where
  res : Row wr w.heap.size (u8s (List.replicate 32 0)) 23
  rs : Row wr gs (u32s s.list) 52
  row : Row wr go (u8s L) 23
  below : Below w.heap.size w wr
theorem FR.step {w : World} {gs go : Nat} {s : S8} {L : List UInt8} {wr : World} (h : FR w gs go s L wr) (h1 : w.heap.size < gs ∧ gs < go) (i : Nat) (x : UInt8) (n : Int) (hn : n = (x.toNat : Int)) :
    FR w gs go s (L.set i x) (wr.setCell ⟨go, i, none⟩ (.int .u8 n)) := by
  subst hn
  have h2 := h.row.set i (U8 x)
  rw [u8s_set] at h2
  exact ⟨h.res.other (by omega) _ _, h.rs.other (by omega) _ _, h2, h.below.setCell (show w.heap.size ≤ go by omega) _⟩

theorem blk_at (T : List UInt8) (b m : Nat) (hm : m < 64) : (blkOf T b).getD m 0 = T.getD (64 * b + m) 0 := by
  unfold blkOf
  simp [List.getD, List.getElem?_drop, hm]

set_option maxRecDepth 20000 in
set_option maxHeartbeats 8000000 in
theorem refof_any (A : Option Addr) (n c : Nat) (l : List UInt8) (w : World) (hr : Rd w w.heap.size A n (us l)) (hA0 : A = none → c = 0) (hn : n ≤ 420) :
    Calls Tryd.prog 20 #[.slice A n c] w fun e w' => e = .returned (.agg (u8s (refP l))) ∧ Below w.heap.size w w' := by
  have HR := Lib.hid hr
  clear hr
  have hA0 := Lib.hid hA0
  go_enter Tryd.func20, Tryd.ntmps20
  go_upto_region 0 with fail
  go_step
  refine alloc_row rfl 23 rfl _ 32 info24 ?_
  intro w1 r1 g1 s1
  have R1 := Lib.hid r1
  have G1 := Lib.hid g1
  have S1 := Lib.hid s1
  clear r1 g1 s1
  go_wp2_with fail
  refine (primes_any w1).mono ?_
  rintro e w2 ⟨v, rfl, hQ⟩
  have HQ := Lib.hid hQ
  clear hQ
  have h1s := S1.out
  have h2s := HQ.out.size
  obtain ⟨A1, c1, rfl⟩ := HQ.out.own.slice
  have hown : (Value.slice A1 (zs P64).length c1).ownBlock ≠ none → True := fun _ => trivial
  clear hown
  have hr2 := R1.out.below HQ.out.below (by omega)
  have hb2 : Below w.heap.size w w2 := (below_make G1.out).trans (HQ.out.below.mono (by omega))
  have ho2 := HQ.out.own
  have hlt2 : ∀ k, (Value.slice A1 (zs P64).length c1).ownBlock = some k → k < w2.heap.size := fun k hk => (World.ownsRow.lt ho2 k hk).2
  rw [h1s] at ho2
  obtain ⟨z8, hz8⟩ : ∃ z, u32s zero8 = z := ⟨_, rfl⟩
  obtain ⟨z64, hz64⟩ : ∃ z, u32s zeros = z := ⟨_, rfl⟩
  go_upto_region 2 with fail
  go_step
  refine build_row rfl 52 #[] rfl z8 (by rw [← hz8]; simpa using built41z) ?_
  intro _
  refine alloc_row rfl 52 rfl z8 8 (by rw [← hz8]; exact info41z) ?_
  intro w3 r3 g3 s3
  refine store_row rfl 52 _ _ rfl w2.heap.size z8 rfl rfl 52 _ r3 8 size41 (by rw [← hz8]; rfl) (by rw [← hz8]; rfl) (by rw [← hz8]; exact u32s_one _) ?_
  intro w4 r4 g4 s4
  go_upto_region 3 with fail
  go_step
  refine build_row rfl 53 #[] rfl z64 (by rw [← hz64]; simpa using built42z) ?_
  intro _
  refine alloc_row rfl 53 rfl z64 64 (by rw [← hz64]; exact info42) ?_
  intro w5 r5 g5 s5
  refine store_row rfl 53 _ _ rfl w4.heap.size z64 rfl rfl 53 _ r5 64 size42 (by rw [← hz64]; rfl) (by rw [← hz64]; rfl) (by rw [← hz64]; exact u32s_one _) ?_
  intro w6 r6 g6 s6
  have hK : KR w w.heap.size w2.heap.size w4.heap.size zero8 zeros (.slice A1 (zs P64).length c1) w6 := by
    have hne : ∀ k, (Value.slice A1 (zs P64).length c1).ownBlock = some k → k ≠ w2.heap.size ∧ k ≠ w4.heap.size := fun k hk => by have := hlt2 k hk; omega
    refine ⟨(((hr2.grown g3 (by simp)).grown g4 (by simp; omega)).grown g5 (by simp)).grown g6 (by simp; omega), ?_, by rw [hz64]; exact r6, ?_, ?_⟩
    · rw [hz8]; exact (r4.grown g5 (by simp)).grown g6 (by simp; omega)
    · have k3 := World.ownsRow.kept ho2 g3 (by rcases hv : (Value.slice A1 (zs P64).length c1).ownBlock with _ | k; exact .inl rfl; exact .inr (by simp))
      have k4 := World.ownsRow.kept k3 g4 (by rcases hv : (Value.slice A1 (zs P64).length c1).ownBlock with _ | k; exact .inl rfl; exact .inr (fun e => (hne k hv).1 (by injection e)))
      have k5 := World.ownsRow.kept k4 g5 (by rcases hv : (Value.slice A1 (zs P64).length c1).ownBlock with _ | k; exact .inl rfl; exact .inr (by simp))
      exact World.ownsRow.kept k5 g6 (by rcases hv : (Value.slice A1 (zs P64).length c1).ownBlock with _ | k; exact .inl rfl; exact .inr (fun e => (hne k hv).2 (by injection e)))
    · exact (((hb2.grown g3 (by omega) (fun _ h => by cases h)).grown g4 (by omega) (fun k h => by injection h with h; omega)).grown g5 (by omega) (fun _ h => by cases h)).grown g6 (by omega) (fun k h => by injection h with h; omega)
  have HLT : RowKit.Hid (∀ k, (Value.slice A1 (zs P64).length c1).ownBlock = some k → k < w2.heap.size) := Lib.hid hlt2
  have hgs : w.heap.size < w2.heap.size ∧ w2.heap.size < w4.heap.size := by omega
  generalize w2.heap.size = gs at hK hgs HLT ⊢
  generalize w4.heap.size = gk at hK hgs ⊢
  have HGS := Lib.hid hgs
  have HK := Lib.hid hK
  clear hK hgs hz8 hz64 r3 g3 s3 r4 g4 s4 r5 g5 s5 r6 g6 s6 h1s h2s hr2 hb2 ho2 hlt2 HQ R1 G1 S1
  rw [show (zs P64).length = 64 from rfl] at HK HLT ⊢
  go_wp2_with fail
  go_loopw [6] (fun i wr => ∃ k : Nat, k ≤ 64 ∧ i = .int .i64 k ∧ KR w w.heap.size gs gk (upto sSet k zero8) (upto kSet k zeros) (.slice A1 64 c1) wr) (fun i _ => 64 - (intOf i).toNat)
  case atStart => exact ⟨0, by omega, rfl, HK.out⟩
  case round =>
    clear HK
    obtain ⟨k, hk, rfl, hK⟩ := hrel
    by_cases hlt : k < 64
    · as_aux_lemma =>
      have hdk : decide ((k : Int) < 64) = true := decide_eq_true (by omega)
      obtain ⟨g, c2, x, hv, hx, hc⟩ := hK.own.at64 (k := k) (by rw [show (zs P64).length = 64 from rfl]; exact hlt)
      have hxp : x = ((nthN P64 k : Nat) : Int) := by
        have h2 : k < P64.length := hlt
        unfold zs at hx
        rw [List.getElem?_map, List.getElem?_eq_getElem h2] at hx
        rw [nthN, List.getD, List.getElem?_eq_getElem h2]
        exact (Option.some.inj hx).symm
      subst hxp
      injection hv with hv1 hv2 hv3
      subst hv1 hv3
      obtain ⟨p, HP⟩ : ∃ p, RowKit.Hid (nthN P64 k = p) := ⟨_, Lib.hid rfl⟩
      rw [HP.out] at hc
      have HK := Lib.hid hK
      clear hK hx hv2
      go_wp2_with fail
      refine (cube_any p wr).mono ?_
      rintro e w2 ⟨rfl, hb2⟩
      rw [show cubeP p = nth KT k by rw [← HP.out]; exact cube_at k hlt]
      obtain ⟨y, HY⟩ : ∃ y, RowKit.Hid (nth KT k = y) := ⟨_, Lib.hid rfl⟩
      rw [HY.out]
      have hK := HK.out.after hb2
      clear HK hc hb2
      have ck := hK.rk.cell k
      rw [u32s_at _ _ (by rw [kSet_len]; exact hlt)] at ck
      have fk := hK.rk.thawed k
      have HK := Lib.hid hK
      clear hK
      have hgne : (Value.slice (some ⟨g, 0, none⟩) 64 c1).ownBlock ≠ some gk ∧ (Value.slice (some ⟨g, 0, none⟩) 64 c1).ownBlock ≠ some gs := by
        have h1 := HLT.out g rfl
        have h2 := HGS.out
        exact ⟨fun e => by have e : g = gk := by simpa [Value.ownBlock] using e
                           omega, fun e => by have e : g = gs := by simpa [Value.ownBlock] using e
                                              omega⟩
      have HNE := Lib.hid hgne
      clear hgne
      go_upto_region 8 with fail
      have hK := HK.out.setK (by have := HGS.out; omega) (by have := HGS.out; omega) HNE.out.1 (by have := HGS.out; omega) k y
      clear HK ck fk
      generalize w2.setCell ⟨gk, k, none⟩ (.int .u32 (y.toNat : Int)) = w3 at hK ⊢
      have hkK : (upto kSet k zeros).set k y = upto kSet (k + 1) zeros := by rw [← HY.out]; rfl
      rw [hkK] at hK
      clear hkK
      by_cases h8 : k < 8
      · have hd8 : decide ((k : Int) < 8) = true := decide_eq_true (by omega)
        obtain ⟨hsq, hp20⟩ := square_at k h8
        rw [HP.out] at hsq hp20
        obtain ⟨g', c2, x, hv, hx, hc⟩ := hK.own.at64 (k := k) (by rw [show (zs P64).length = 64 from rfl]; exact hlt)
        have hxp : x = (p : Int) := by
          have h2 : k < P64.length := hlt
          unfold zs at hx
          rw [List.getElem?_map, List.getElem?_eq_getElem h2] at hx
          rw [← HP.out, nthN, List.getD, List.getElem?_eq_getElem h2]
          exact (Option.some.inj hx).symm
        subst hxp
        injection hv with hv1 hv2 hv3
        injection hv1 with hv1
        injection hv1 with hv1
        subst hv1 hv3
        have HK := Lib.hid hK
        have HSQ := Lib.hid hsq
        have HP20 := Lib.hid hp20
        clear hK hx hv2 hsq hp20
        go_wp2_with fail
        refine (square_any p w3 HP20.out).mono ?_
        rintro e w4 ⟨rfl, hb4⟩
        rw [HSQ.out]
        obtain ⟨u, HU⟩ : ∃ u, RowKit.Hid (nth S0.list k = u) := ⟨_, Lib.hid rfl⟩
        rw [HU.out]
        have hK := HK.out.after hb4
        clear HK hc hb4
        have cs := hK.rs.cell k
        rw [u32s_at _ _ (by rw [sSet_len]; exact h8)] at cs
        have fs := hK.rs.thawed k
        have HK := Lib.hid hK
        clear hK
        go_wp2_with fail
        go_roundw
        case rel => exact ⟨k + 1, by omega, by simp, by
          have h1 := HK.out.setS (by have := HGS.out; omega) (by have := HGS.out; omega) HNE.out.2 (by have := HGS.out; omega) k u
          have h2 : (upto sSet k zero8).set k u = upto sSet (k + 1) zero8 := by
            show _ = sSet k (upto sSet k zero8)
            unfold sSet
            rw [if_pos h8, HU.out]
          rw [h2] at h1
          exact h1⟩
        case measure => simp [intOf]; omega
      · have hd8 : decide ((k : Int) < 8) = false := decide_eq_false (by omega)
        have HK := Lib.hid hK
        clear hK
        go_wp2_with fail
        go_roundw
        case rel => exact ⟨k + 1, by omega, by simp, by
          have h2 : upto sSet (k + 1) zero8 = upto sSet k zero8 := by
            show (if k < 8 then (upto sSet k zero8).set k (nth S0.list k) else upto sSet k zero8) = _
            rw [if_neg h8]
          rw [h2]
          exact HK.out⟩
        case measure => simp [intOf]; omega
    · have hk64 : k = 64 := by omega
      subst hk64
      rw [show ((64 : Nat) : Int) = 64 from rfl]
      rw [k_all, s_all] at hK
      clear hlt hk
      have HK := Lib.hid hK
      clear hK
      go_upto_region 10 with fail
      have hT : TR w gs gk wr.heap.size S0.list (.slice (some ⟨wr.heap.size, 0, none⟩) 0 0) [] (wr.alloc (.cells #[] 5)) := by
        have hg := World.grownBy_alloc wr (.cells #[] 5) none
        exact ⟨HK.out.res.grown hg (by simp), HK.out.rs.grown hg (by simp), HK.out.rk.grown hg (by simp), Own.lit wr #[] [] 0 rfl rfl (by decide), HK.out.below.alloc HK.out.below.size _, by simp⟩
      have hgB : gk < wr.heap.size := HK.out.rk.lt
      have HT := Lib.hid hT
      have HGB := Lib.hid hgB
      clear hT hgB HK
      have hln : l.length = n := by have := HR.out.1; rwa [us_length] at this
      have HLN := Lib.hid hln
      clear hln
      have HRA : RowKit.Hid (A = none → c = 0) := hA0
      go_wp2_with (at_builtin; refine cat8 (wr.alloc (.cells #[] 5)) rfl (.tmp 54) (.tmp 55) rfl wr.heap.size w.heap.size _ [] l A n c rfl rfl HT.out.own (HR.out.below HT.out.below) HRA.out HT.out.size (by simp; omega) ?_)
      intro v1 w1 ho hg1
      have hT := HT.out.push HGS.out HGB.out ho hg1
      clear ho hg1 HT
      generalize wr.heap.size = B at hT HGB ⊢
      have HT := Lib.hid hT
      clear hT
      go_wp2_with (at_builtin; refine push8 w1 rfl (.tmp 57) (.tmp 58) rfl B _ l [128] _ 1 rfl rfl HT.out.own rfl rfl HT.out.size (by have := HLN.out; omega) ?_)
      intro v2 w2 ho hg1
      have hT := HT.out.push HGS.out HGB.out ho hg1
      clear ho hg1 HT
      have HT := Lib.hid hT
      clear hT
      go_wp2_with fail
      go_loopw [7] (fun v wr => ∃ j : Nat, j ≤ gap n ∧ TR w gs gk B S0.list v (l ++ (128 :: List.replicate j 0)) wr) (fun v _ => match v with | .slice _ m _ => gap n + 1 + n - m | _ => 0)
      case atStart => exact ⟨0, by omega, HT.out⟩
      case round =>
        clear HT
        obtain ⟨j, hj, hT⟩ := hrel
        obtain ⟨L, hL⟩ : ∃ L, l ++ (128 :: List.replicate j (0 : UInt8)) = L := ⟨_, rfl⟩
        have hlen : L.length = n + (j + 1) := by rw [← hL, List.length_append, List.length_cons, List.length_replicate, HLN.out]
        rw [hL] at hT
        obtain ⟨A2, c2, rfl⟩ := hT.own.slice
        have HT := Lib.hid hT
        have HL := Lib.hid hL
        have HLE := Lib.hid hlen
        have hgl := gap_lt n
        have hlb : L.length ≤ 600 := by omega
        clear hT hL
        by_cases hlt : j < gap n
        · as_aux_lemma =>
          have h5 : ((L.length : Int) % 64 != 56) = true := by have := gap_more n j hlt; simp; omega
          have HLT2 := Lib.hid hlt
          clear hlt hlen
          go_wp2_with (at_builtin; refine push8 wr rfl (.tmp 64) (.tmp 65) rfl B _ L [0] _ 1 rfl rfl HT.out.own rfl rfl HT.out.size (by omega) ?_)
          intro v3 w3 ho hg1
          have hT := HT.out.push HGS.out HGB.out ho hg1
          clear ho hg1
          obtain ⟨A3, c3, rfl⟩ := hT.own.slice
          have HT2 := Lib.hid hT
          clear hT
          go_wp2_with fail
          go_roundw
          case rel => exact ⟨j + 1, HLT2.out, by
            have h1 : l ++ (128 :: List.replicate (j + 1) (0 : UInt8)) = L ++ [0] := by rw [← HL.out, List.replicate_succ']; simp
            rw [h1]
            exact HT2.out⟩
          case measure => have := HLT2.out; have := HLE.out; simp; omega
        · have hjn : j = gap n := by omega
          have h5 : ((L.length : Int) % 64 != 56) = false := by have := gap_done n; rw [← hjn] at this; simp; omega
          have HJN := Lib.hid hjn
          clear hlt hlen hjn hj
          go_wp2_with fail
          go_loopw [7, 9] (fun v i wr => ∃ m : Nat, m ≤ 8 ∧ i = .int .i64 ((m : Int) - 1) ∧ TR w gs gk B S0.list v (L ++ tail8 (n * 8) (8 - m)) wr) (fun _ i _ => (intOf i + 1).toNat)
          case atStart => exact ⟨8, by omega, rfl, by simpa [tail8] using HT.out⟩
          case round =>
            clear HT
            obtain ⟨m, hm, rfl, hT⟩ := hrel
            obtain ⟨M, hM⟩ : ∃ M, L ++ tail8 (n * 8) (8 - m) = M := ⟨_, rfl⟩
            have hmb : M.length ≤ 700 := by rw [← hM, List.length_append, tail8_length]; omega
            rw [hM] at hT
            obtain ⟨A3, c3, rfl⟩ := hT.own.slice
            have HM := Lib.hid hM
            have HT := Lib.hid hT
            clear hT hM
            rcases m with _ | q
            · have hd : decide ((0 : Int) ≤ ((0 : Nat) : Int) - 1) = false := rfl
              have HTT : RowKit.Hid (l ++ fillP n = M) := Lib.hid (by
                rw [← HM.out, ← HL.out, HJN.out]
                unfold fillP
                simp)
              rw [show (((0 : Nat) : Int) - 1) = -1 from rfl]
              clear hd
              have hM64 : M.length % 64 = 0 := by
                rw [← HTT.out]
                unfold fillP
                rw [List.length_append, List.length_append, List.length_cons, List.length_replicate, tail8_length, HLN.out]
                have := gap_done n
                omega
              obtain ⟨nb, hnb⟩ : ∃ nb, M.length = 64 * nb := ⟨M.length / 64, by omega⟩
              have HNB := Lib.hid hnb
              clear hM64 hnb hm
              go_wp2_with fail
              go_loopw [10] (fun at_ wr => ∃ b p : Nat, b ≤ nb ∧ RowKit.Hid (64 * b = p) ∧ at_ = .int .i64 (p : Int) ∧ TR w gs gk B (stP M b).list (.slice A3 M.length c3) M wr) (fun at_ _ => (M.length + 64 - (intOf at_).toNat))
              case atStart => exact ⟨0, 0, by omega, Lib.hid rfl, rfl, HT.out⟩
              case round =>
                clear HT
                obtain ⟨b, p, hb, HP, rfl, hT⟩ := hrel
                obtain ⟨s, Hs⟩ : ∃ s, RowKit.Hid (stP M b = s) := ⟨_, Lib.hid rfl⟩
                rw [Hs.out] at hT
                have hpb := HP.out
                by_cases hlt : b < nb
                · have hpl : p + 64 ≤ M.length := by have := HNB.out; omega
                  have hd : decide ((p : Int) < (M.length : Int)) = true := decide_eq_true (by omega)
                  have hd2 : p < M.length := by omega
                  have HT := Lib.hid hT
                  clear hT hpb
                  obtain ⟨z65, hz65⟩ : ∃ z, u32s zeros = z := ⟨_, rfl⟩
                  go_upto_region 22 with fail
                  go_step
                  refine build_row rfl 53 #[] rfl z65 (by rw [← hz65]; simpa using built42z) ?_
                  intro _
                  refine alloc_row rfl 53 rfl z65 64 (by rw [← hz65]; exact info42) ?_
                  intro w5 r5 g5 s5
                  refine store_row rfl 53 _ _ rfl wr.heap.size z65 rfl rfl 53 _ r5 64 size42 (by rw [← hz65]; rfl) (by rw [← hz65]; rfl) (by rw [← hz65]; exact u32s_one _) ?_
                  intro w6 r6 g6 s6
                  have hWT : WT w gs gk B wr.heap.size s.list (.slice A3 M.length c3) M zeros w6 := by
                    have hl1 := HT.out.res.lt
                    have hl2 := HT.out.rs.lt
                    have hl3 := HT.out.rk.lt
                    have hl4 : ∀ k, (Value.slice A3 M.length c3).ownBlock = some k → k < wr.heap.size := fun k hk => (World.ownsRow.lt HT.out.own k hk).2
                    have hne : (Value.slice A3 M.length c3).ownBlock ≠ some wr.heap.size := fun e => by have := hl4 _ e; omega
                    refine ⟨⟨(HT.out.res.grown g5 (by simp)).grown g6 (by simp; omega), (HT.out.rs.grown g5 (by simp)).grown g6 (by simp; omega), (HT.out.rk.grown g5 (by simp)).grown g6 (by simp; omega), ?_, (HT.out.below.grown g5 HT.out.below.size (fun _ h => by cases h)).grown g6 (by have := HT.out.below.size; omega) (fun k h => by injection h with h; have := HT.out.below.size; omega), by have := HT.out.size; omega⟩, by rw [hz65]; exact r6, hne⟩
                    exact World.ownsRow.kept (World.ownsRow.kept HT.out.own g5 (by rcases hv : (Value.slice A3 M.length c3).ownBlock with _ | k; exact .inl rfl; exact .inr (by simp))) g6 (.inr hne)
                  have hgw : gk < wr.heap.size := HT.out.rk.lt
                  generalize wr.heap.size = gw at hWT hgw ⊢
                  have HGW := Lib.hid hgw
                  have HW := Lib.hid hWT
                  clear hWT hgw r5 g5 s5 r6 g6 s6 hz65 HT
                  obtain ⟨blk, Hblk⟩ : ∃ k, RowKit.Hid (blkOf M b = k) := ⟨_, Lib.hid rfl⟩
                  go_wp2_with fail
                  go_loopw [12] (fun i wr => ∃ k : Nat, k ≤ 64 ∧ i = .int .i64 k ∧ WT w gs gk B gw s.list (.slice A3 M.length c3) M (wAt blk k) wr) (fun i _ => 64 - (intOf i).toNat)
                  case atStart => exact ⟨0, by omega, rfl, HW.out⟩
                  case round =>
                    clear HW
                    obtain ⟨i, hi, rfl, hW⟩ := hrel
                    by_cases hi64 : i < 64
                    · have hdi : decide ((i : Int) < 64) = true := decide_eq_true (by omega)
                      by_cases hi16 : i < 16
                      · as_aux_lemma =>
                        have hd16 : decide ((i : Int) < 16) = true := decide_eq_true (by omega)
                        have hW0 : WT w gs gk B gw s.list (.slice A3 M.length c3) M (upto (fillStep blk) (4 * i + 0) zeros) wr := by
                          have := hW
                          unfold wAt at this
                          rwa [if_pos (by omega)] at this
                        have HW := Lib.hid hW0
                        clear hW hW0
                        go_wp2_with fail
                        go_loopw [13] (fun j wr => ∃ k : Nat, k ≤ 4 ∧ j = .int .i64 k ∧ WT w gs gk B gw s.list (.slice A3 M.length c3) M (upto (fillStep blk) (4 * i + k) zeros) wr) (fun i _ => 4 - (intOf i).toNat)
                        case atStart => exact ⟨0, by omega, rfl, HW.out⟩
                        case round =>
                          clear HW
                          obtain ⟨j, hj, rfl, hW⟩ := hrel
                          by_cases hj4 : j < 4
                          · have hdj : decide ((j : Int) < 4) = true := decide_eq_true (by omega)
                            obtain ⟨gt, c5, y, hv, hy, hc⟩ := hW.tr.own.at8 (k := p + 4 * i + j) (by omega)
                            injection hv with hv1 hv2 hv3
                            subst hv1 hv3
                            have cw := hW.row.cell i
                            rw [u32s_at _ _ (by rw [fill_length]; omega)] at cw
                            have fw := hW.row.thawed i
                            obtain ⟨x, HX⟩ : ∃ x, RowKit.Hid (nth (upto (fillStep blk) (4 * i + j) zeros) i = x) := ⟨_, Lib.hid rfl⟩
                            rw [HX.out] at cw
                            have HYB : RowKit.Hid (blk.getD (4 * i + j) 0 = y) := Lib.hid (by
                              rw [← Hblk.out, blk_at M b _ (by omega), HP.out, ← Nat.add_assoc]
                              rw [List.getD, hy]
                              rfl)
                            have HW := Lib.hid hW
                            clear hW hv2 hy
                            have hm256 : (x.toNat : Int) * 256 % 4294967296 = ((shl x 8).toNat : Int) := shl32 x 8
                            obtain ⟨yy, HYY⟩ : ∃ z, RowKit.Hid (UInt32.ofNat y.toNat = z) := ⟨_, Lib.hid rfl⟩
                            have hyy : (y.toNat : Int) % 4294967296 = (yy.toNat : Int) := by
                              have : y.toNat < 256 := y.toNat_lt
                              rw [← HYY.out, UInt32.toNat_ofNat']; omega
                            have hadd := ra32 (shl x 8) yy
                            have hix : ((p : Int) + 4 * (i : Int) + (j : Int)) < (M.length : Int) := by omega
                            go_wp2_with fail
                            go_region
                            go_wp2_with fail
                            go_roundw
                            case rel => exact ⟨j + 1, by omega, by simp, by
                              have h1 := (HW.out.step HGS.out HGW.out i (a32 (shl x 8) yy) _ rfl).drew
                              show WT w gs gk B gw s.list _ M (fillStep blk (4 * i + j) (upto (fillStep blk) (4 * i + j) zeros)) _
                              unfold fillStep
                              rw [show (4 * i + j) / 4 = i by omega, HYB.out, HYY.out]
                              have h2 : shl (nth (upto (fillStep blk) (4 * i + j) zeros) i) 8 ||| yy = a32 (shl x 8) yy := by rw [HX.out, ← HYY.out]; exact (fill_val2 x y).symm
                              unfold fillStep at h2 h1
                              rw [h2]
                              exact h1⟩
                            case measure => simp [intOf]; omega
                          · have hj44 : j = 4 := by omega
                            subst hj44
                            have hdj : decide (((4 : Nat) : Int) < 4) = false := rfl
                            have HW := Lib.hid hW
                            clear hW
                            go_wp2_with fail
                            go_roundw
                            case rel => exact ⟨i + 1, by omega, by simp, by
                              unfold wAt
                              rw [if_pos (by omega), show 4 * (i + 1) = 4 * i + 4 by omega]
                              exact HW.out⟩
                            case measure => simp [intOf]; omega
                      · as_aux_lemma =>
                        have hd16 : decide ((i : Int) < 16) = false := decide_eq_false (by omega)
                        obtain ⟨L2, HL2⟩ : ∃ L, RowKit.Hid (wAt blk i = L) := ⟨_, Lib.hid rfl⟩
                        rw [HL2.out] at hW
                        have HLL : RowKit.Hid (L2.length = 64) := Lib.hid (by rw [← HL2.out]; exact wAt_len blk i)
                        have c15 := hW.row.cell (i - 15)
                        have c2 := hW.row.cell (i - 2)
                        rw [u32s_at _ _ (by rw [HLL.out]; omega)] at c15 c2
                        obtain ⟨x15, H15⟩ : ∃ x, RowKit.Hid (nth L2 (i - 15) = x) := ⟨_, Lib.hid rfl⟩
                        obtain ⟨x2, H2⟩ : ∃ x, RowKit.Hid (nth L2 (i - 2) = x) := ⟨_, Lib.hid rfl⟩
                        rw [H15.out] at c15
                        rw [H2.out] at c2
                        have HW := Lib.hid hW
                        clear hW
                        have hxor := rx32
                        have hs3 : ∀ x : UInt32, (x.toNat : Int) / 8 = ((shr x 3).toNat : Int) := fun x => shr32 x 3
                        have hs10 : ∀ x : UInt32, (x.toNat : Int) / 1024 = ((shr x 10).toNat : Int) := fun x => shr32 x 10
                        go_upto_region 31 with fail
                        go_quiet (first | (go_at_call 30; exact Calls.quiet_of_same (rright_at _ _ rfl _)))
                        have hW := HW.out.drewN nq
                        clear HW c15
                        generalize wr.drewN nq = w4 at hW ⊢
                        clear nq
                        obtain ⟨p1, HP1⟩ : ∃ x, RowKit.Hid (x32 (x32 (rotr x15 7) (rotr x15 18)) (shr x15 3) = x) := ⟨_, Lib.hid rfl⟩
                        rw [HP1.out]
                        have c2 := hW.row.cell (i - 2)
                        rw [u32s_at _ _ (by rw [HLL.out]; omega), H2.out] at c2
                        have HW := Lib.hid hW
                        clear hW
                        go_upto_region 32 with fail
                        go_quiet (first | (go_at_call 30; exact Calls.quiet_of_same (rright_at _ _ rfl _)))
                        have hW := HW.out.drewN nq
                        clear HW c2
                        generalize w4.drewN nq = w5 at hW ⊢
                        clear nq
                        obtain ⟨p2, HP2⟩ : ∃ x, RowKit.Hid (x32 (x32 (rotr x2 17) (rotr x2 19)) (shr x2 10) = x) := ⟨_, Lib.hid rfl⟩
                        rw [HP2.out]
                        have c16 := hW.row.cell (i - 16)
                        have c7 := hW.row.cell (i - 7)
                        have c0 := hW.row.cell i
                        rw [u32s_at _ _ (by rw [HLL.out]; omega)] at c16 c7 c0
                        have f0 := hW.row.thawed i
                        obtain ⟨x16, H16⟩ : ∃ x, RowKit.Hid (nth L2 (i - 16) = x) := ⟨_, Lib.hid rfl⟩
                        obtain ⟨x7, H7⟩ : ∃ x, RowKit.Hid (nth L2 (i - 7) = x) := ⟨_, Lib.hid rfl⟩
                        rw [H16.out] at c16
                        rw [H7.out] at c7
                        have HW := Lib.hid hW
                        clear hW hxor hs3 hs10
                        have hadd := ra32
                        have i1 : (0 : Int) ≤ (i : Int) - 16 := by omega
                        have i2 : (i : Int) - 16 < 64 := by omega
                        have i3 : (0 : Int) ≤ (i : Int) - 7 := by omega
                        have i4 : (i : Int) - 7 < 64 := by omega
                        have i5 : ((i : Int) - 16).toNat = i - 16 := by omega
                        have i6 : ((i : Int) - 7).toNat = i - 7 := by omega
                        go_upto_region 33 with fail
                        go_region
                        go_wp2_with fail
                        go_roundw
                        case rel => exact ⟨i + 1, by omega, by simp, by
                          have h1 := (HW.out.step HGS.out HGW.out i (a32 (a32 (a32 x16 x7) p1) p2) _ rfl).drew
                          rw [wAt_exp blk i (by omega), HL2.out]
                          unfold expStep
                          rw [H15.out, H2.out, H16.out, H7.out]
                          have h3 : x16 + (rotr x15 7 ^^^ rotr x15 18 ^^^ shr x15 3) + x7 + (rotr x2 17 ^^^ rotr x2 19 ^^^ shr x2 10) = a32 (a32 (a32 x16 x7) p1) p2 := by rw [exp_comm, ← HP1.out, ← HP2.out]; rfl
                          rw [h3]
                          exact h1⟩
                        case measure => simp [intOf]; omega
                    · have hi64e : i = 64 := by omega
                      subst hi64e
                      rw [show ((64 : Nat) : Int) = 64 from rfl]
                      obtain ⟨W, HWW⟩ : ∃ W, RowKit.Hid (wordsL blk = W) := ⟨_, Lib.hid rfl⟩
                      rw [wAt_all, HWW.out] at hW
                      have HWL : RowKit.Hid (W.length = 64) := Lib.hid (by rw [← HWW.out]; exact exp_length blk 48)
                      have c0 := hW.tr.rs.cell 0
                      have c1 := hW.tr.rs.cell 1
                      have c2 := hW.tr.rs.cell 2
                      have c3 := hW.tr.rs.cell 3
                      have c4 := hW.tr.rs.cell 4
                      have c5 := hW.tr.rs.cell 5
                      have c6 := hW.tr.rs.cell 6
                      have c7 := hW.tr.rs.cell 7
                      rw [u32s_at _ _ (by rw [list_len]; decide)] at c0 c1 c2 c3 c4 c5 c6 c7
                      obtain ⟨sa, sb, sc, sd, se, sf, sg, sh⟩ := s
                      change _ = some (U32 sa) at c0
                      change _ = some (U32 sb) at c1
                      change _ = some (U32 sc) at c2
                      change _ = some (U32 sd) at c3
                      change _ = some (U32 se) at c4
                      change _ = some (U32 sf) at c5
                      change _ = some (U32 sg) at c6
                      change _ = some (U32 sh) at c7
                      have HW := Lib.hid hW
                      clear hW hi64 hi
                      go_upto_region 34 with fail
                      go_quiet (fail)
                      have hW := HW.out.drewN nq
                      clear HW c0 c1 c2 c3 c4 c5 c6 c7
                      generalize wr.drewN nq = w5 at hW ⊢
                      clear nq
                      have HW := Lib.hid hW
                      clear hW
                      go_wp2_with fail
                      go_loopw [16, 17, 18, 19, 20, 21, 22, 23, 24] (fun va vb vc vd ve vf vg vh i wr => ∃ (k : Nat) (a b c d e f g h : UInt32), k ≤ 64 ∧ i = .int .i64 k ∧ RowKit.Hid (upto (rnd W) k ⟨sa, sb, sc, sd, se, sf, sg, sh⟩ = ⟨a, b, c, d, e, f, g, h⟩) ∧ va = U32 a ∧ vb = U32 b ∧ vc = U32 c ∧ vd = U32 d ∧ ve = U32 e ∧ vf = U32 f ∧ vg = U32 g ∧ vh = U32 h ∧ WT w gs gk B gw (S8.list ⟨sa, sb, sc, sd, se, sf, sg, sh⟩) (.slice A3 M.length c3) M W wr) (fun _ _ _ _ _ _ _ _ i _ => 64 - (intOf i).toNat)
                      case atStart => exact ⟨0, sa, sb, sc, sd, se, sf, sg, sh, by omega, rfl, Lib.hid rfl, rfl, rfl, rfl, rfl, rfl, rfl, rfl, rfl, HW.out⟩
                      case round =>
                        clear HW
                        obtain ⟨k, a, b', c', d, e, f, g, h, hk, rfl, HK, rfl, rfl, rfl, rfl, rfl, rfl, rfl, rfl, hW⟩ := hrel
                        by_cases hk64 : k < 64
                        · as_aux_lemma =>
                          have hdk : decide ((k : Int) < 64) = true := decide_eq_true (by omega)
                          have ck := hW.tr.rk.cell k
                          have cw := hW.row.cell k
                          rw [u32s_at _ _ (by show k < 64; omega)] at ck
                          rw [u32s_at _ _ (by rw [HWL.out]; omega)] at cw
                          obtain ⟨kk, HKK⟩ : ∃ x, RowKit.Hid (nth KT k = x) := ⟨_, Lib.hid rfl⟩
                          obtain ⟨wk, HWK⟩ : ∃ x, RowKit.Hid (nth W k = x) := ⟨_, Lib.hid rfl⟩
                          rw [HKK.out] at ck
                          rw [HWK.out] at cw
                          have HW := Lib.hid hW
                          clear hW
                          have hxor := rx32
                          have hand := rc32
                          have hor := ro32
                          have hadd := ra32
                          have hnot := rn32
                          go_upto_region 38 with fail
                          go_quiet (first | (go_at_call 30; exact Calls.quiet_of_same (rright_at _ _ rfl _)))
                          simp only [ra32]
                          have hW := HW.out.drewN nq
                          clear HW ck cw hnot
                          generalize wr.drewN nq = w6 at hW ⊢
                          clear nq
                          have HW := Lib.hid hW
                          clear hW
                          obtain ⟨tv, HTV⟩ : ∃ x, RowKit.Hid (a32 (a32 (a32 (a32 h (x32 (x32 (rotr e 6) (rotr e 11)) (rotr e 25))) (o32 (c32 e f) (c32 (n32 e) g))) kk) wk = x) := ⟨_, Lib.hid rfl⟩
                          rw [HTV.out]
                          go_wp2_with (first | (go_at_call 30; refine (rright_at _ _ rfl _).mono ?_; rintro e w' ⟨rfl, rfl⟩))
                          go_roundw
                          case rel =>
                            refine ⟨k + 1, a32 tv (a32 (x32 (x32 (rotr a 2) (rotr a 13)) (rotr a 22)) (o32 (o32 (c32 a b') (c32 a c')) (c32 b' c'))), a, b', c', a32 d tv, e, f, g, by omega, by simp, Lib.hid ?_, by rw [ra32], rfl, rfl, rfl, by rw [ra32], rfl, rfl, rfl, HW.out⟩
                            show rnd W k (upto (rnd W) k ⟨sa, sb, sc, sd, se, sf, sg, sh⟩) = _
                            rw [HK.out]
                            unfold rnd
                            rw [HKK.out, HWK.out, ← HTV.out, ch_or, maj_or]
                            rfl
                          case measure => simp [intOf]; omega
                        · have hk64e : k = 64 := by omega
                          subst hk64e
                          rw [show ((64 : Nat) : Int) = 64 from rfl]
                          clear hk64 hk
                          have HW := Lib.hid hW
                          clear hW
                          go_wp2_with fail
                          have hA : AT w gs gk B wr.heap.size (S8.list ⟨sa, sb, sc, sd, se, sf, sg, sh⟩) (.slice A3 M.length c3) M (S8.list ⟨a, b', c', d, e, f, g, h⟩) (wr.alloc (.cells #[U32 a, U32 b', U32 c', U32 d, U32 e, U32 f, U32 g, U32 h] 51)) := by
                            have hg := World.grownBy_alloc wr (.cells #[U32 a, U32 b', U32 c', U32 d, U32 e, U32 f, U32 g, U32 h] 51) none
                            have hT := HW.out.tr
                            refine ⟨⟨hT.res.grown hg (by simp), hT.rs.grown hg (by simp), hT.rk.grown hg (by simp), hT.own.alloc _, hT.below.alloc hT.below.size _, by have := hT.size; simp; omega⟩, ?_⟩
                            exact heap_alloc_new wr _
                          have h8g : gk < wr.heap.size := HW.out.tr.rk.lt
                          generalize wr.alloc (.cells #[U32 a, U32 b', U32 c', U32 d, U32 e, U32 f, U32 g, U32 h] 51) = w7 at hA ⊢
                          generalize wr.heap.size = g8 at hA h8g ⊢
                          have H8G := Lib.hid h8g
                          have HA := Lib.hid hA
                          clear hA h8g HW
                          go_loopw [256] (fun i wr => ∃ k : Nat, k ≤ 8 ∧ i = .int .i64 k ∧ AT w gs gk B g8 (upto (addS (S8.list ⟨a, b', c', d, e, f, g, h⟩)) k (S8.list ⟨sa, sb, sc, sd, se, sf, sg, sh⟩)) (.slice A3 M.length c3) M (S8.list ⟨a, b', c', d, e, f, g, h⟩) wr) (fun i _ => 8 - (intOf i).toNat)
                          case atStart => exact ⟨0, by omega, rfl, HA.out⟩
                          case round =>
                            clear HA
                            obtain ⟨k, hk, rfl, hA⟩ := hrel
                            by_cases hk8 : k < 8
                            · as_aux_lemma =>
                              have hdk : decide ((k : Int) < 8) = true := decide_eq_true (by omega)
                              have cs := hA.tr.rs.cell k
                              rw [u32s_at _ _ (by rw [addS_len, list_len]; exact hk8)] at cs
                              have ct := hA.row.cell k
                              rw [u32s_at _ _ (by rw [list_len]; exact hk8)] at ct
                              have fs := hA.tr.rs.thawed k
                              obtain ⟨x1, HX1⟩ : ∃ x, RowKit.Hid (nth (upto (addS (S8.list ⟨a, b', c', d, e, f, g, h⟩)) k (S8.list ⟨sa, sb, sc, sd, se, sf, sg, sh⟩)) k = x) := ⟨_, Lib.hid rfl⟩
                              obtain ⟨x2, HX2⟩ : ∃ x, RowKit.Hid (nth (S8.list ⟨a, b', c', d, e, f, g, h⟩) k = x) := ⟨_, Lib.hid rfl⟩
                              rw [HX1.out] at cs
                              rw [HX2.out] at ct
                              have HA := Lib.hid hA
                              clear hA
                              have hadd := ra32 x1 x2
                              go_wp2_with fail
                              go_roundw
                              case rel => exact ⟨k + 1, by omega, by simp, by
                                have h1 := HA.out.step HGS.out HGB.out H8G.out k (a32 x1 x2) _ rfl
                                rw [← HX1.out, ← HX2.out] at h1
                                rw [← HX1.out, ← HX2.out]
                                exact h1⟩
                              case measure => simp [intOf]; omega
                            · have hk8e : k = 8 := by omega
                              subst hk8e
                              have hdk : decide (((8 : Nat) : Int) < 8) = false := rfl
                              rw [addS_all] at hA
                              have HS2 : RowKit.Hid (stP M (b + 1) = S8.add ⟨sa, sb, sc, sd, se, sf, sg, sh⟩ ⟨a, b', c', d, e, f, g, h⟩) := Lib.hid (by
                                show mixP (stP M b) (blkOf M b) = _
                                rw [Hs.out, Hblk.out]
                                unfold mixP
                                rw [HWW.out, HK.out])
                              have HA := Lib.hid hA
                              clear hA
                              go_wp2_with fail
                              go_roundw
                              case rel => exact ⟨b + 1, p + 64, by omega, Lib.hid (by rw [← HP.out]; omega), by simp, by rw [HS2.out]; exact HA.out.tr⟩
                              case measure => simp [intOf]; omega
                · have hbn : b = nb := by omega
                  subst hbn
                  have hpl : p = M.length := by have := HNB.out; omega
                  subst hpl
                  have hd : decide ((M.length : Int) < (M.length : Int)) = false := decide_eq_false (by omega)
                  have HREF : RowKit.Hid (refP l = outL s) := Lib.hid (by
                    unfold refP
                    have h1 := HLN.out
                    rw [h1, HTT.out, HNB.out, Nat.mul_div_cancel_left b (by decide), Hs.out])
                  have HT := Lib.hid hT
                  clear hT hpb hlt hb
                  obtain ⟨z32, hz32⟩ : ∃ z, u8s (List.replicate 32 0) = z := ⟨_, rfl⟩
                  go_upto_region 46 with fail
                  go_step
                  refine build_row rfl 23 #[] rfl z32 (by rw [← hz32]; simpa using built24z) ?_
                  intro _
                  refine alloc_row rfl 23 rfl z32 32 (by rw [← hz32]; exact info24) ?_
                  intro w5 r5 g5 s5
                  refine store_row rfl 23 _ _ rfl wr.heap.size z32 rfl rfl 23 _ r5 32 size24 (by rw [← hz32]; rfl) (by rw [← hz32]; rfl) (by rw [← hz32]; exact u8s_one _) ?_
                  intro w6 r6 g6 s6
                  have hgs0 := HGS.out
                  have hF : FR w gs wr.heap.size s (List.replicate 32 0) w6 := by
                    have hl1 := HT.out.res.lt
                    have hl2 := HT.out.rs.lt
                    exact ⟨(HT.out.res.grown g5 (by simp)).grown g6 (by simp; omega), (HT.out.rs.grown g5 (by simp)).grown g6 (by simp; omega), by rw [hz32]; exact r6, (HT.out.below.grown g5 HT.out.below.size (fun _ h => by cases h)).grown g6 (by have := HT.out.below.size; omega) (fun k h => by injection h with h; have := HT.out.below.size; omega)⟩
                  have hgo : w.heap.size < gs ∧ gs < wr.heap.size := ⟨hgs0.1, HT.out.rs.lt⟩
                  generalize wr.heap.size = go at hF hgo ⊢
                  have HGO := Lib.hid hgo
                  have HF := Lib.hid hF
                  clear hF hgo hgs0 r5 g5 s5 r6 g6 s6 hz32 HT hd
                  go_wp2_with fail
                  go_loopw [30] (fun i wr => ∃ k : Nat, k ≤ 32 ∧ i = .int .i64 k ∧ FR w gs go s (upto (outS s) k (List.replicate 32 0)) wr) (fun i _ => 32 - (intOf i).toNat)
                  case atStart => exact ⟨0, by omega, rfl, HF.out⟩
                  case round =>
                    clear HF
                    obtain ⟨k, hk, rfl, hF⟩ := hrel
                    by_cases hk32 : k < 32
                    · as_aux_lemma =>
                      have hdk : decide ((k : Int) < 32) = true := decide_eq_true (by omega)
                      have cs := hF.rs.cell (k / 4)
                      rw [u32s_at _ _ (by rw [list_len]; omega)] at cs
                      have co := hF.row.cell k
                      rw [u8s_at _ _ (by rw [out_length]; omega)] at co
                      have fo := hF.row.thawed k
                      obtain ⟨x, HX⟩ : ∃ x, RowKit.Hid (nth s.list (k / 4) = x) := ⟨_, Lib.hid rfl⟩
                      rw [HX.out] at cs
                      obtain ⟨j, hj⟩ : ∃ j, k % 4 = j := ⟨_, rfl⟩
                      have hj4 : j < 4 := by omega
                      have hjI : ((k : Int) % 4) = (j : Int) := by omega
                      have hv := byte_val x j
                      obtain ⟨y, HY⟩ : ∃ y, RowKit.Hid (byteOf x j = y) := ⟨_, Lib.hid rfl⟩
                      rw [HY.out] at hv
                      have HJ := Lib.hid hj
                      have HF := Lib.hid hF
                      clear hF hj
                      go_wp2_with fail
                      go_roundw
                      case rel => exact ⟨k + 1, by omega, by simp, by
                        show FR w gs go s (outS s k (upto (outS s) k (List.replicate 32 0))) _
                        have h1 := HF.out.step HGO.out k y ((x.toNat : Int) / 2 ^ (24 - j * 8) % 256) (by rw [Nat.mul_comm j 8]; exact hv)
                        rw [← HY.out, ← HX.out, ← HJ.out] at h1
                        unfold outS
                        rw [← HX.out, ← HJ.out]
                        exact h1⟩
                      case measure => simp [intOf]; omega
                    · have hk32e : k = 32 := by omega
                      subst hk32e
                      have hdk : decide (((32 : Nat) : Int) < 32) = false := rfl
                      rw [out_eq] at hF
                      obtain ⟨O, HO⟩ : ∃ O, RowKit.Hid (outL s = O) := ⟨_, Lib.hid rfl⟩
                      rw [HO.out] at hF
                      have HZ : RowKit.Hid ((u8s O).size = 32) := Lib.hid (by rw [← HO.out]; rfl)
                      have HONE := Lib.hid (u8s_one O)
                      have HF := Lib.hid hF
                      clear hF hk hk32
                      go_upto_region 51 with fail
                      go_step
                      refine load_row rfl 23 _ rfl go rfl 23 (u8s O) _ HF.out.row Tryd.underlying23 rfl 32 size24 HZ.out ?_
                      intro _
                      refine store_row rfl 23 _ _ rfl w.heap.size (u8s O) ?x1 ?x2 23 _ HF.out.res 32 size24 HZ.out ?x3 HONE.out ?x4
                      case x1 => rfl
                      case x2 => rfl
                      case x3 => exact u8s_size _
                      case x4 =>
                        intro w9 r9 g9 s9
                        have HB := Lib.hid (HF.out.below.grown g9 HF.out.below.size (fun k h => by injection h with h; omega))
                        have R9 := Lib.hid r9
                        clear r9 g9 s9
                        go_wp2_with fail
                        refine bodyPost_ret (v := .agg (u8s O)) ?_ rfl ⟨by rw [HREF.out, HO.out], HB.out⟩
                        exact results_cell_row rfl _ _ w.heap.size 23 (u8s O) (0, 0) _ rfl R9.out Tryd.underlying23 rfl (by rw [size24, HZ.out])
            · as_aux_lemma =>
              rw [show (((q + 1 : Nat) : Int) - 1) = (q : Int) by omega]
              have hxv := be64_val2 n q (by omega)
              obtain ⟨x, HX⟩ : ∃ x, RowKit.Hid (be64 (n * 8) (7 - q) = x) := ⟨_, Lib.hid rfl⟩
              rw [HX.out] at hxv
              go_wp2_with (at_builtin; refine push8 wr rfl (.tmp 75) (.tmp 82) rfl B _ M [x] _ 1 rfl rfl HT.out.own rfl rfl HT.out.size (by omega) ?_)
              intro v3 w3 ho hg1
              have hT := HT.out.push HGS.out HGB.out ho hg1
              clear ho hg1
              obtain ⟨A4, c4, rfl⟩ := hT.own.slice
              have HT2 := Lib.hid hT
              clear hT
              go_wp2_with fail
              go_roundw
              case rel => exact ⟨q, by omega, by simp, by
                have h1 : L ++ tail8 (n * 8) (8 - q) = M ++ [x] := by
                  rw [← HM.out, ← HX.out, show 8 - q = (7 - q) + 1 by omega, show 8 - (q + 1) = 7 - q by omega]
                  show L ++ (tail8 (n * 8) (7 - q) ++ [be64 (n * 8) (7 - q)]) = _
                  rw [List.append_assoc]
                rw [h1]
                exact HT2.out⟩
              case measure => simp [intOf]
end Go.Proofs.YtbklcelnnmhgkaaDoor
