
/- Contracts of gzip's Pack and Is, and of the law's fixed fact. -/
import Derived.Test.YtpnnlhegncbfaaaGreatDoorGz0
namespace Go.Proofs.YtpnnlhegncbfaaaGreatDoor
set_option maxRecDepth 20000
open Go.RowKit

/-- A member's head, as it is packed; a text as a member. -/
def headB : List UInt8 := [31, 139, 8, 0, 0, 0, 0, 0, 0, 255]
def gzP (l : List UInt8) (z : Int) : List UInt8 := headB ++ packT l z ++ fourB (addP 0 l).toNat ++ fourB l.length
set_option maxHeartbeats 1000000 in
theorem gpack_range (A : Option Addr) (n c : Nat) (z : Int) (w : World) (hz : z < 0 ∨ 2 < z) :
    Calls Tryz.prog 13 #[.slice A n c, .int .i64 z] w fun e w' => e = .returned (.tuple #[.slice none 0 0, errV 1]) ∧ Below w.heap.size w w' := by
  have HP := Lib.hid (deflate_range A n c z w hz)
  clear hz
  go_enter Tryz.func13, Tryz.ntmps13
  go_wp2_with fail
  refine HP.out.mono ?_
  rintro e w1 ⟨rfl, hb⟩
  have HB := Lib.hid hb
  clear hb HP
  rw [show errV 1 = .iface 39 (.int .i64 1) from rfl]
  go_wp2_with fail
  go_ret2
  exact ⟨rfl, HB.out⟩
/-- What is made piece by piece. -/
structure GO (w wr : World) (v : Value) (L : List UInt8) : Prop where
  own : Own wr w.heap.size v L
  below : Below w.heap.size w wr
theorem GO.grow {w wr w' : World} {v v' : Value} {L L' : List UInt8} (h : GO w wr v L) (ho : Own w' w.heap.size v' L') (hg : wr.grownBy w' v.ownBlock) : GO w w' v' L' := ⟨ho, Own.grown h.own hg h.below h.below.size⟩
theorem GO.slice {w wr : World} {v : Value} {L : List UInt8} (h : GO w wr v L) (k : Nat) (hk : L.length = k) : ∃ A c, v = .slice A k c := by
  obtain ⟨A, c, e⟩ := h.own.slice
  exact ⟨A, c, by rw [e, hk]⟩
theorem GO.lay {w wr : World} {v : Value} {L : List UInt8} (h : GO w wr v L) (cs : Array Value) (t : TypeId) : GO w (wr.alloc (.cells cs t)) v L := ⟨World.ownsRow.alloc h.own _, h.below.trans ((below_make (World.grownBy_alloc wr _ none)).mono h.below.size)⟩
set_option maxHeartbeats 4000000 in
theorem gpack_any (A : Option Addr) (n c : Nat) (l : List UInt8) (z : Int) (w : World) (hr : Rd w w.heap.size A n (us l)) (hA : A = none → c = 0) (hn : n ≤ 30000) (hnc : n ≤ c) (hz : 0 ≤ z ∧ z ≤ 2) (ht : Tabs w) :
    Calls Tryz.prog 13 #[.slice A n c, .int .i64 z] w fun e w' => ∃ v, e = .returned (.tuple #[v, .nilIface]) ∧ Own w' w.heap.size v (gzP l z) ∧ Below w.heap.size w w' := by
  have HR := Lib.hid hr
  have HT := Lib.hid ht
  have HLN : RowKit.Hid (l.length = n ∧ n ≤ 30000) := Lib.hid ⟨by have := hr.1; rwa [us_length] at this, hn⟩
  have HDF := Lib.hid (deflate_any A n c l z w hr hA hn hnc hz)
  have kc := fun (w : World) (C : Array Value) (n c : Nat) => Lib.run_convert_bytes_const (P := Tryz.prog) w 22 5 C n c Tryz.underlying22 Tryz.underlying5
  have HPL : RowKit.Hid ((packT l z).length ≤ 310000) := Lib.hid (by
    have h1 : l.length ≤ 30000 := by have := HLN.out; omega
    have h2 : (plainT l).length = l.length + 5 := by simp [plainT]
    have h3 : (tokT l).length ≤ 310000 := by
      have g1 := flat_length (toksT l)
      have g2 : (tokT l).length = ((fixedM l).length + 7) / 8 := textB_length _
      have g3 := toks_len l l.length 0
      have g4 : (bitsO fixA (256 : Nat)).length ≤ 15 := by rw [bitsO_length]; exact lenI_bound fix_low.1 _
      have g5 : (fixedM l).length = 3 + ((toksT l).flatMap tokB).length + (bitsO fixA (256 : Nat)).length := by
        unfold fixedM
        simp only [List.length_append, List.length_cons, List.length_nil]
      unfold toksT at g1 g5
      omega
    unfold packT
    split
    · omega
    · split
      · omega
      · split <;> omega)
  obtain ⟨P, HP⟩ : ∃ P, RowKit.Hid (packT l z = P) := ⟨_, Lib.hid rfl⟩
  rw [HP.out] at HDF HPL
  have HG : RowKit.Hid (gzP l z = headB ++ P ++ fourB (addP 0 l).toNat ++ fourB n) := Lib.hid (by unfold gzP; rw [HP.out, HLN.out.1])
  rw [HG.out]
  clear hr hA hnc ht HG
  go_enter Tryz.func13, Tryz.ntmps13
  go_wp2_with fail
  refine HDF.out.mono ?_
  rintro e w1 ⟨v1, rfl, ho1, hb1⟩
  obtain ⟨A1, c1, rfl⟩ := ho1.slice
  have HO1 := Lib.hid ho1
  have HB1 := Lib.hid hb1
  have HC1 := Lib.hid (noCap' ho1)
  clear ho1 hb1 HDF
  obtain ⟨pl, HPP⟩ : ∃ pl, RowKit.Hid (P.length = pl) := ⟨_, Lib.hid rfl⟩
  rw [HPP.out]
  have HN2 : RowKit.Hid (∀ x : Nat, x < 4294967296 → ∀ (A : Option Addr) (k c : Nat) (L : List UInt8) (wx : World), k ≤ 900000 → L.length = k → GO w1 wx (.slice A k c) L →
      Calls Tryz.prog 21 #[.slice A k c, .int .u32 (x : Int)] wx fun e w' => ∃ v', e = .returned v' ∧ GO w1 w' v' (L ++ fourB x)) := Lib.hid (fun x hx A k c L wx hk hL hG =>
    (appnum_any A k c x w1.heap.size L wx hx hG.own hG.below.size (by omega)).mono fun e w' ⟨v', e1, e2, e3⟩ => ⟨v', e1, hG.grow e2 e3⟩)
  go_wp2_with (at_builtin; refine grow8 _ rfl (.tmp 22) (.tmp 24) rfl w1.heap.size w1.heap.size (w1.heap.size + 1) 3 1 [31, 139, 8] [0] rfl rfl rfl rfl (by decide) (by decide) (by simp; omega) ?_ ?_ ?_)
  · intro j u hu
    have h := World.news_of_block (fr := (3, 4)) (w := w1.alloc (.cells #[.int .u8 31, .int .u8 139, .int .u8 8] 5 (3, 4))) (by exact heap_alloc_new w1 _) j u hu
    exact Lib.cell?_alloc_marked _ h
  · intro j u hu
    have h := World.news_of_block (fr := (0, 0)) (w := (w1.alloc (.cells #[.int .u8 31, .int .u8 139, .int .u8 8] 5 (3, 4))).alloc (.cells #[.int .u8 0] 5)) (by exact heap_alloc_new _ _) j u hu
    simpa using h
  intro v2 w2 ho2 hg2
  have hbl : Below w1.heap.size w1 w2 := below_make (((World.grownBy_alloc w1 _ none).trans (World.grownBy_alloc _ _ none)).trans hg2)
  have HG2 : RowKit.Hid (GO w1 w2 v2 [31, 139, 8, 0]) := Lib.hid ⟨ho2, hbl⟩
  have HTB : RowKit.Hid (∀ wx vx L, GO w1 wx vx L → Tabs wx ∧ Rd wx wx.heap.size A n (us l) ∧ Rd wx w1.heap.size A1 pl (us P) ∧ Below w.heap.size w wx) := Lib.hid (fun wx vx L h =>
    ⟨(HT.out.below HB1.out HT.out.size).below h.below (Nat.le_trans HT.out.size HB1.out.size), (HR.out.next HB1.out).next h.below, by have := HO1.out.rd.2.below h.below; rwa [HPP.out] at this, HB1.out.trans (h.below.mono HB1.out.size)⟩)
  clear ho2 hg2 hbl kc HO1
  obtain ⟨A2, c2, rfl⟩ := HG2.out.slice 4 rfl
  have HC2 := Lib.hid (HN2.out 0 (by decide) A2 4 c2 _ w2 (by decide) rfl HG2.out)
  rw [show ((0 : Nat) : Int) = 0 from rfl] at HC2
  go_wp2_with fail
  refine HC2.out.mono ?_
  rintro e w3 ⟨v3, rfl, hg3⟩
  obtain ⟨A3, c3, rfl⟩ := hg3.slice 8 rfl
  have HG3 := Lib.hid hg3
  clear hg3 HC2 HG2
  go_wp2_with (at_builtin; refine push8 w3 rfl (.tmp 29) (.tmp 31) rfl w1.heap.size (.slice A3 8 c3) _ [0, 255] _ 2 rfl rfl HG3.out.own rfl rfl HG3.out.below.size (by decide) ?_)
  intro v4 w4 ho4 hg4 _
  have hG4 := HG3.out.grow ho4 hg4
  obtain ⟨A4, c4, rfl⟩ := hG4.slice 10 rfl
  have HG4 := Lib.hid hG4
  clear ho4 hg4 hG4 HG3
  have HTB4 := Lib.hid (HTB.out _ _ _ HG4.out)
  go_wp2_with (at_builtin; refine cat8 w4 rfl (.tmp 33) (.tmp 34) rfl w1.heap.size w1.heap.size (.slice A4 10 c4) _ P A1 pl c1 rfl rfl HG4.out.own HTB4.out.2.2.1 HC1.out HG4.out.below.size (by have := HPL.out; have := HPP.out; show 10 + pl ≤ 1000000; omega) ?_)
  intro v5 w5 ho5 hg5 _
  have hG5 := HG4.out.grow ho5 hg5
  obtain ⟨q5, HQ5⟩ : ∃ q5, RowKit.Hid (10 + pl = q5) := ⟨_, Lib.hid rfl⟩
  obtain ⟨A5, c5, rfl⟩ := hG5.slice q5 (by have h1 := HPP.out; have h2 := HQ5.out; simp [fourB_length]; omega)
  have HG5 := Lib.hid hG5
  clear ho5 hg5 hG5 HG4 HTB4
  have HTB5 := Lib.hid (HTB.out _ _ _ HG5.out)
  have HQB : RowKit.Hid (q5 ≤ 310010) := Lib.hid (by have := HQ5.out; have := HPL.out; have := HPP.out; omega)
  go_wp2_with fail
  refine (cof_any A n c l w5 HTB5.out.2.1 HTB5.out.1 (by omega)).mono ?_
  rintro e wz ⟨rfl, rfl⟩
  obtain ⟨s, HS⟩ : ∃ s, RowKit.Hid ((addP 0 l).toNat = s) := ⟨_, Lib.hid rfl⟩
  rw [show U32 (addP 0 l) = .int .u32 ((addP 0 l).toNat : Int) from rfl, HS.out]
  have hs : s < 4294967296 := by have := u32_lt (addP 0 l); have := HS.out; omega
  have HC5 := Lib.hid (HN2.out s hs A5 q5 c5 _ wz (by have := HQB.out; omega) (by have h1 := HPP.out; have h2 := HQ5.out; simp [fourB_length]; omega) HG5.out)
  clear HTB5 HG5
  go_wp2_with fail
  refine HC5.out.mono ?_
  rintro e w6 ⟨v6, rfl, hg6⟩
  obtain ⟨q6, HQ6⟩ : ∃ q6, RowKit.Hid (q5 + 4 = q6) := ⟨_, Lib.hid rfl⟩
  obtain ⟨A6, c6, rfl⟩ := hg6.slice q6 (by have h1 := HPP.out; have h2 := HQ5.out; have h3 := HQ6.out; simp [fourB_length]; omega)
  have HG6 := Lib.hid hg6
  clear hg6 HC5
  have e32 : (n : Int) % 4294967296 = (n : Int) := by omega
  have HC6 := Lib.hid (HN2.out n (by omega) A6 q6 c6 _ w6 (by have := HQB.out; have := HQ6.out; omega) (by have h1 := HPP.out; have h2 := HQ5.out; have h3 := HQ6.out; simp [fourB_length]; omega) HG6.out)
  go_wp2_with fail
  refine HC6.out.mono ?_
  rintro e w7 ⟨v7, rfl, hg7⟩
  have HF := Lib.hid (And.intro hg7 (HTB.out _ _ _ hg7).2.2.2)
  clear hg7 HC6 HG6
  go_wp2_with fail
  go_ret2
  refine ⟨v7, rfl, ?_, HF.out.2⟩
  rw [HS.out]
  exact own_mono HF.out.1.own HB1.out.size
theorem gzP_length (l : List UInt8) (z : Int) : (gzP l z).length = (packT l z).length + 18 := by
  unfold gzP headB
  simp only [List.length_append, fourB_length, List.length_cons, List.length_nil]
  omega
theorem rd_head {w : World} {B : Nat} {A : Option Addr} {n : Nat} {l : List UInt8} (h : Rd w B A n (us l)) (m : Nat) (hm : m ≤ n) : Rd w B A m (us (l.take m)) := by
  have hl : l.length = n := by have := h.1; rwa [us_length] at this
  refine ⟨by rw [us_length, List.length_take]; omega, fun h0 => ?_⟩
  obtain ⟨g, o, ha, hg, hc⟩ := h.2 (by omega)
  refine ⟨g, o, ha, hg, fun j u hu => hc j u ?_⟩
  have hj : j < (us (l.take m)).length := (List.getElem?_eq_some_iff.1 hu).1
  rw [us_length, List.length_take] at hj
  rw [← hu]
  simp only [us, List.getElem?_map, List.getElem?_take, if_pos (show j < m by omega)]
set_option maxHeartbeats 1000000 in
theorem gis_yes (A : Option Addr) (n c : Nat) (l : List UInt8) (w : World) (hr : Rd w w.heap.size A n (us l)) (hnc : n ≤ c) (h3 : l.take 3 = [31, 139, 8]) :
    Calls Tryz.prog 10 #[.slice A n c] w fun e w' => e = .returned (.bool true) ∧ w' = w := by
  have hln : l.length = n := by have := hr.1; rwa [us_length] at this
  have hn3 : 3 ≤ n := by have := congrArg List.length h3; rw [List.length_take] at this; simp at this; omega
  have d1 : decide ((3 : Int) ≤ (n : Int)) = true := decide_eq_true (by omega)
  have hs := str8 w _ A 3 c (l.take 3) (rd_head hr 3 hn3)
  rw [h3] at hs
  clear hr h3
  go_enter Tryz.func10, Tryz.ntmps10
  go_wp2_with fail
  go_ret
  exact ⟨rfl, rfl⟩
end Go.Proofs.YtpnnlhegncbfaaaGreatDoor
