
/- The law InflateBounds. -/

/- What a Writer is in memory; contract of write. -/

/- Contract of write. -/
import Derived.Test.YtpnnlhegncbfaaaGreatDoorGroupN
import Derived.Test.YtpnnlhegncbfaaaGreatDoorGroupA
import Derived.BigRegion
import Derived.Deep.Cut
namespace Go.Proofs.YtpnnlhegncbfaaaGreatDoor
set_option maxRecDepth 20000
open Go.RowKit

theorem bits_of (l : List UInt8) : Bits (bitsL l) := ⟨bin_bitsL l, by rw [bitsL_length]; omega⟩
/-- What Inflate leaves, whatever the limit. -/
def InfA (w : World) (l : List UInt8) (x : Int) (e : Ending) (w' : World) : Prop :=
  Below w.heap.size w w' ∧
    ((∃ k : Int, ((x < 0 ∨ 1048576 < x) ∧ k = 1 ∨ (¬ (x < 0 ∨ 1048576 < x) ∧ ∃ j : Nat, k = (j : Int) ∧ inflF (8 * l.length + 1) (bitsL l) x.toNat = .error j)) ∧ e = .returned (.tuple #[zeroR, .iface 39 (.int .i64 k)])) ∨
     (∃ s u, ¬ (x < 0 ∨ 1048576 < x) ∧ inflF (8 * l.length + 1) (bitsL l) x.toNat = .ok ((), s) ∧ e = .returned (.tuple #[.agg #[u, .int .i64 (((s.pos + 7) / 8 : Nat) : Int), .int .i64 (s.steps : Int)], .nilIface]) ∧ Own w' w.heap.size u s.out))
theorem inflate_all (A : Option Addr) (n c : Nat) (l : List UInt8) (x : Int) (w : World) (hr : Rd w w.heap.size A n (us l)) (hA : A = none → c = 0) (hn : n ≤ 1000000) (ht : Tab w) (h0 : 2 < w.heap.size) :
    Calls Tryz.prog 67 #[.slice A n c, .int .i64 x] w (InfA w l x) := by
  by_cases hx : x < 0 ∨ 1048576 < x
  · refine (inflate_range A n c x w hx).mono ?_
    rintro e w' ⟨rfl, hb⟩
    exact ⟨hb, .inl ⟨1, .inl ⟨hx, rfl⟩, rfl⟩⟩
  · obtain ⟨m, rfl⟩ : ∃ m : Nat, x = (m : Int) := ⟨x.toNat, by omega⟩
    refine (inflate_any A n c l m w hr hA hn (by omega) ht h0).mono ?_
    rintro e w' ⟨hb, ⟨k, hk, rfl⟩ | ⟨s, u, hs, rfl, hu⟩⟩
    · exact ⟨hb, .inl ⟨k, .inr ⟨hx, k, rfl, hk⟩, rfl⟩⟩
    · exact ⟨hb, .inr ⟨s, u, hx, hs, rfl, hu⟩⟩

end Go.Proofs.YtpnnlhegncbfaaaGreatDoor
namespace Go.Proofs.YtpnnlhegncbfaaaGreatDoor
set_option maxRecDepth 20000
open Go.RowKit

/-- Block g holds a writer whose bytes, in the row v, are t, with so much room. -/
structure Wr (w : World) (B g : Nat) (v : Value) (t : List UInt8) (room : Nat) : Prop where
  row : Row w g #[v, .int .i64 (room : Int)] 118
  own : Own w B v t
  apart : v.ownBlock ≠ some g
/-- What a step of a writer leaves alone. -/
structure St (w : World) (g : Nat) (v : Value) (w' : World) (v' : Value) : Prop where
  os : w'.os = w.os
  tape : w'.tape = w.tape
  output : w'.output = w.output
  size : w.heap.size ≤ w'.heap.size
  block : ∀ k, k < w.heap.size → k ≠ g → v.ownBlock ≠ some k → w'.heap[k]? = w.heap[k]?
  fresh : Fresh w v v'
theorem St.refl (w : World) (g : Nat) (v : Value) : St w g v w v := ⟨rfl, rfl, rfl, Nat.le_refl _, fun _ _ _ _ => rfl, Fresh.same _ _⟩
theorem Fresh.not {w : World} {v v' : Value} (h : Fresh w v v') {k : Nat} (hk : k < w.heap.size) (hv : v.ownBlock ≠ some k) : v'.ownBlock ≠ some k := by
  rcases h with h | ⟨j, h, hj⟩
  · rw [h]; exact hv
  · rw [h]; intro e; injection e with e; omega
theorem Fresh.trans {w w1 : World} {v v1 v2 : Value} (h : Fresh w v v1) (h' : Fresh w1 v1 v2) (hs : w.heap.size ≤ w1.heap.size) : Fresh w v v2 := by
  rcases h' with h' | ⟨j, h', hj⟩
  · rcases h with h | ⟨i, h, hi⟩
    · exact .inl (h'.trans h)
    · exact .inr ⟨i, h'.trans h, hi⟩
  · exact .inr ⟨j, h', by omega⟩
theorem St.trans {w w1 w2 : World} {g : Nat} {v v1 v2 : Value} (h : St w g v w1 v1) (h' : St w1 g v1 w2 v2) : St w g v w2 v2 :=
  ⟨h'.os.trans h.os, h'.tape.trans h.tape, h'.output.trans h.output, Nat.le_trans h.size h'.size,
    fun k hk hg hv => (h'.block k (Nat.lt_of_lt_of_le hk h.size) hg (h.fresh.not hk hv)).trans (h.block k hk hg hv), h.fresh.trans h'.fresh h.size⟩
theorem St.ofRow {w w' : World} {g : Nat} {v : Value} (h : w.grownBy w' (some g)) : St w g v w' v :=
  ⟨h.os, h.tape, h.output, h.size, fun k hk hg _ => h.block k hk (fun e => hg (by injection e)), Fresh.same _ _⟩
theorem St.ofOwn {w w' : World} {g : Nat} {v v' : Value} (h : w.grownBy w' v.ownBlock) (hf : Fresh w v v') : St w g v w' v' :=
  ⟨h.os, h.tape, h.output, h.size, fun k hk _ hv => h.block k hk (fun e => hv e.symm), hf⟩
theorem St.drew {w w' : World} {g : Nat} {v v' : Value} (h : St w g v w' v') : St w g v w'.drew v' := ⟨h.os, h.tape, h.output, h.size, h.block, h.fresh⟩
theorem St.below {w w' : World} {B g : Nat} {v v' : Value} {t : List UInt8} {room : Nat} (h : St w g v w' v') (hW : Wr w B g v t room) (hB : B ≤ w.heap.size) (hg : B ≤ g) : Below B w w' :=
  ⟨h.os, h.tape, h.output, h.size, fun k hk => h.block k (by omega) (by omega) (fun e => by have := (World.ownsRow.lt hW.own k e).1; omega)⟩

theorem Wr.drew {w : World} {B g : Nat} {v : Value} {t : List UInt8} {room : Nat} (h : Wr w B g v t room) : Wr w.drew B g v t room := ⟨h.row, h.own.drew, h.apart⟩
theorem Wr.cell0 {w : World} {B g : Nat} {v : Value} {t : List UInt8} {room : Nat} (h : Wr w B g v t room) : w.cell? ⟨g, 0, none⟩ = some v := h.row.cell 0
theorem Wr.cell1 {w : World} {B g : Nat} {v : Value} {t : List UInt8} {room : Nat} (h : Wr w B g v t room) : w.cell? ⟨g, 1, none⟩ = some (.int .i64 (room : Int)) := h.row.cell 1
theorem Wr.set1 {w : World} {B g : Nat} {v : Value} {t : List UInt8} {room : Nat} (h : Wr w B g v t room) (r : Nat) (z : Int) (hz : z = (r : Int)) : Wr (w.setCell ⟨g, 1, none⟩ (.int .i64 z)) B g v t r := by
  subst hz
  exact ⟨h.row.set 1 _, World.ownsRow.kept h.own (grown_setCell w g 1 _) (.inr h.apart), h.apart⟩
/-- The text is another row now. -/
theorem Wr.set0 {w : World} {B g : Nat} {v v' : Value} {t' : List UInt8} {room : Nat} (h : Row w g #[v, .int .i64 (room : Int)] 118) (ho : Own w B v' t') (ha : v'.ownBlock ≠ some g) : Wr (w.setCell ⟨g, 0, none⟩ v') B g v' t' room :=
  ⟨h.set 0 _, World.ownsRow.kept ho (grown_setCell w g 0 _) (.inr ha), ha⟩
/-- A byte of the text is another one now. -/
theorem Wr.setByte {w : World} {B g b n c : Nat} {t : List UInt8} {room : Nat} (h : Wr w B g (.slice (some ⟨b, 0, none⟩) n c) t room) (hn : t.length = n) (i : Nat) (y : UInt8) (z : Int) (hz : z = (y.toNat : Int)) :
    Wr (w.setCell ⟨b, i, none⟩ (.int .u8 z)) B g (.slice (some ⟨b, 0, none⟩) n c) (t.set i y) room ∧ w.grownBy (w.setCell ⟨b, i, none⟩ (.int .u8 z)) (Value.slice (some ⟨b, 0, none⟩) n c).ownBlock := by
  subst hz
  have hown := h.own
  unfold Own at hown
  rw [hn] at hown
  obtain ⟨h1, h2⟩ := World.ownsRow.stored hown i (U8 y)
  refine ⟨⟨h.row.other ?_ _ _, ?_, h.apart⟩, h2⟩
  · intro e
    exact h.apart (by rw [e]; rfl)
  · unfold Own
    rw [List.length_set, hn, show us (t.set i y) = (us t).set i (U8 y) by simp [us]]
    exact h1


/-- Block g holds a writer of L bits, which are the number N. -/
def WS (w : World) (B g : Nat) (v : Value) (N L : Nat) : Prop := ∃ t, Wr w B g v t (8 * t.length - L) ∧ numL t = N ∧ t.length = (L + 7) / 8 ∧ N < 2 ^ L

theorem last_lt {t : List UInt8} {T P s : Nat} {y : UInt8} (hy : t[T]? = some y) (hP : P = 8 * T + s) (hN : numL t < 2 ^ P) (hT : t.length = T + 1) : y.toNat < 2 ^ s := by
  have h1 := numL_at t T y hy
  have h2 := numL_lt t
  rw [hT, show 8 * (T + 1) = 8 * T + 8 by omega, Nat.pow_add] at h2
  have h3 : numL t / 2 ^ (8 * T) < 256 := by rw [Nat.div_lt_iff_lt_mul (Nat.two_pow_pos _), Nat.mul_comm]; exact h2
  rw [Nat.mod_eq_of_lt h3] at h1
  rw [h1, Nat.div_lt_iff_lt_mul (Nat.two_pow_pos _), ← Nat.pow_add, Nat.add_comm, ← hP]
  exact hN
/-- The byte that the last one becomes. -/
def filled (y : UInt8) (x room : Nat) : UInt8 := UInt8.ofNat (y.toNat + x % 2 ^ room * 2 ^ (8 - room))
theorem shl_mod (x room : Nat) (hr : room ≤ 8) : x * 2 ^ (8 - room) % 256 = x % 2 ^ room * 2 ^ (8 - room) := by
  have h : (256 : Nat) = 2 ^ room * 2 ^ (8 - room) := by rw [← Nat.pow_add, show room + (8 - room) = 8 by omega]
  rw [h, Nat.mul_mod_mul_right]
theorem filled_toNat (y : UInt8) (x room : Nat) (hr : room ≤ 8) (hy : y.toNat < 2 ^ (8 - room)) : (filled y x room).toNat = y.toNat + x % 2 ^ room * 2 ^ (8 - room) := by
  unfold filled
  rw [UInt8.toNat_ofNat', Nat.mod_eq_of_lt]
  have h : (256 : Nat) = 2 ^ room * 2 ^ (8 - room) := by rw [← Nat.pow_add, show room + (8 - room) = 8 by omega]
  have hm : x % 2 ^ room < 2 ^ room := Nat.mod_lt _ (Nat.two_pow_pos _)
  have := Nat.mul_le_mul_right (2 ^ (8 - room)) hm
  rw [Nat.succ_mul] at this
  show _ < 256
  omega
theorem filled_or (y : UInt8) (x room : Nat) (hr : room ≤ 8) (hy : y.toNat < 2 ^ (8 - room)) : bits .or .u8 (y.toNat : Int) ((x : Int) * 2 ^ (8 - room) % 256) = ((filled y x room).toNat : Int) := by
  have h1 : (x : Int) * 2 ^ (8 - room) % 256 = ((x * 2 ^ (8 - room) % 256 : Nat) : Int) := by simp
  have h2 := filled_toNat y x room hr hy
  rw [h1, u8_or_nat _ _ y.toNat_lt (Nat.mod_lt _ (by decide)), shl_mod x room hr, or_add _ _ _ hy, h2]

/-- What the row comes to when the last byte was filled. -/
theorem Wr.fill {w : World} {B g b c T room x : Nat} {t : List UInt8} {y : UInt8} {P : Nat} (h : Wr w B g (.slice (some ⟨b, 0, none⟩) (T + 1) c) t room) (hT : t.length = T + 1) (hy : t[T]? = some y) (hr : room ≤ 8) (hP : P = 8 * (T + 1) - room) (hN : numL t < 2 ^ P) :
    ∃ t', Wr (w.setCell ⟨b, T, none⟩ (.int .u8 (bits .or .u8 (y.toNat : Int) ((x : Int) * 2 ^ (8 - room) % 256)))) B g (.slice (some ⟨b, 0, none⟩) (T + 1) c) t' room ∧
      St w g (.slice (some ⟨b, 0, none⟩) (T + 1) c) (w.setCell ⟨b, T, none⟩ (.int .u8 (bits .or .u8 (y.toNat : Int) ((x : Int) * 2 ^ (8 - room) % 256)))) (.slice (some ⟨b, 0, none⟩) (T + 1) c) ∧
      t'.length = T + 1 ∧ numL t' = numL t + x % 2 ^ room * 2 ^ P := by
  have hlt : y.toNat < 2 ^ (8 - room) := last_lt hy (by omega) hN hT
  obtain ⟨h1, h2⟩ := h.setByte hT T (filled y x room) _ (filled_or y x room hr hlt)
  refine ⟨_, h1, St.ofOwn h2 (Fresh.same _ _), by rw [List.length_set, hT], ?_⟩
  have h3 := numL_set t T y (filled y x room) hy
  rw [filled_toNat y x room hr hlt, Nat.add_mul, Nat.mul_assoc, ← Nat.pow_add, show 8 - room + 8 * T = P by omega] at h3
  omega

/-- One round's number. -/
theorem fill_num (N L x n k room d : Nat) (hx : x < 2 ^ n) (hk : k ≤ n) (hd : d = min (n - k) room) :
    N + x % 2 ^ k * 2 ^ L + x / 2 ^ k % 2 ^ room * 2 ^ (L + k) = N + x % 2 ^ (k + d) * 2 ^ L := by
  have h1 : x / 2 ^ k % 2 ^ room = x / 2 ^ k % 2 ^ d := by
    by_cases h : room ≤ n - k
    · rw [hd, Nat.min_eq_right h]
    · have hX : x / 2 ^ k < 2 ^ (n - k) := by
        rw [Nat.div_lt_iff_lt_mul (Nat.two_pow_pos _), ← Nat.pow_add, show n - k + k = n by omega]; exact hx
      have hX2 : x / 2 ^ k < 2 ^ room := Nat.lt_of_lt_of_le hX (Nat.pow_le_pow_right (by decide) (by omega))
      rw [hd, Nat.min_eq_left (by omega), Nat.mod_eq_of_lt hX, Nat.mod_eq_of_lt hX2]
  rw [h1, Nat.pow_add 2 k d, Nat.mod_mul, Nat.add_mul, Nat.pow_add 2 L k, Nat.add_assoc]
  congr 1
  rw [Nat.mul_comm (2 ^ L) (2 ^ k), ← Nat.mul_assoc, Nat.mul_comm (x / 2 ^ k % 2 ^ d) (2 ^ k)]
theorem part_lt (N L x k : Nat) (hN : N < 2 ^ L) : N + x % 2 ^ k * 2 ^ L < 2 ^ (L + k) := by
  have hm : x % 2 ^ k < 2 ^ k := Nat.mod_lt _ (Nat.two_pow_pos _)
  have := Nat.mul_le_mul_right (2 ^ L) hm
  rw [Nat.succ_mul] at this
  rw [Nat.pow_add, Nat.mul_comm (2 ^ L)]
  omega

end Go.Proofs.YtpnnlhegncbfaaaGreatDoor
namespace Go.Proofs.YtpnnlhegncbfaaaGreatDoor
set_option maxRecDepth 20000
open Go.RowKit

set_option maxHeartbeats 2000000 in
theorem write_any (B g N L x n : Nat) (v : Value) (w : World) (hW : WS w B g v N L) (hB : B ≤ w.heap.size) (hx : x < 2 ^ n) (hn : n ≤ 32) (hL : L ≤ 7000000) :
    Calls Tryz.prog 102 #[.pointer (some ⟨g, 0, none⟩), .int .u32 (x : Int), .int .i64 (n : Int)] w fun e w' => e = .returned (.tuple #[]) ∧ ∃ v', WS w' B g v' (N + x * 2 ^ L) (L + n) ∧ St w g v w' v' := by
  have HN := Lib.hid (show N < 2 ^ L by obtain ⟨_, _, _, _, h⟩ := hW; exact h)
  have HXN := Lib.hid hx
  have HB := Lib.hid hB
  have HI : RowKit.Hid (WS w B g v (N + x % 2 ^ 0 * 2 ^ L) (L + 0) ∧ St w g v w v) := Lib.hid ⟨by simpa [Nat.mod_one] using hW, St.refl _ _ _⟩
  clear hx hB hW
  go_enter Tryz.func102, Tryz.ntmps102
  go_wp2_with fail
  go_loopw [1, 2] (fun xv nv wr => ∃ (k : Nat) (v' : Value), k ≤ n ∧ xv = .int .u32 ((x / 2 ^ k : Nat) : Int) ∧ nv = .int .i64 ((n - k : Nat) : Int) ∧ WS wr B g v' (N + x % 2 ^ k * 2 ^ L) (L + k) ∧ St w g v wr v') (fun _ nv _ => (intOf nv).toNat)
  case atStart => exact ⟨0, v, by omega, by simp, rfl, HI.out.1, HI.out.2⟩
  case round =>
    clear HI
    obtain ⟨k, v', hk, rfl, rfl, hW, hS⟩ := hrel
    obtain ⟨m, hm⟩ : ∃ m, n - k = m := ⟨_, rfl⟩
    rw [hm]
    by_cases hlt : 0 < m
    · have hd : decide (0 < (m : Int)) = true := decide_eq_true (by omega)
      obtain ⟨X, HX⟩ : ∃ X, RowKit.Hid (x / 2 ^ k = X) := ⟨_, Lib.hid rfl⟩
      rw [HX.out]
      obtain ⟨t, hW, hNt, hlen, _⟩ := hW
      obtain ⟨r, hr⟩ : ∃ r, 8 * t.length - (L + k) = r := ⟨_, rfl⟩
      rw [hr] at hW
      by_cases hr0 : r = 0
      · subst hr0
        have hc0 := hW.cell0
        have hc1 := hW.cell1
        have hfree : Own wr B v' t := hW.own
        have HW := Lib.hid hW
        have HS := Lib.hid hS
        have HNt := Lib.hid hNt
        have HLt := Lib.hid hlen
        have HR := Lib.hid hr
        clear hW hS hfree hNt hlen hr
        have hz : (((0 : Nat) : Int) == 0) = true := rfl
        go_wp2_with (at_builtin; refine push8 wr rfl (.tmp 18) (.tmp 19) rfl B v' t [0] _ 1 rfl rfl HW.out.own rfl rfl (Nat.le_trans HB.out HS.out.size) (by have := HLt.out; omega) ?_)
        intro v1 w1 ho hg hf
        obtain ⟨t1, ht1⟩ : ∃ t1, t ++ [0] = t1 := ⟨_, rfl⟩
        rw [ht1] at ho
        have hl1 : t1.length = t.length + 1 := by rw [← ht1]; simp
        have hN1 : numL t1 = N + x % 2 ^ k * 2 ^ L := by rw [← ht1, numL_append, HNt.out]; simp [numL]
        have hlen1 : 8 * t1.length - 8 = L + k ∧ t1.length ≤ 1000000 ∧ 0 < t1.length := by have := HR.out; have := HLt.out; omega
        have HK := Lib.hid (And.intro hN1 hlen1)
        obtain ⟨A1, c1, hv1⟩ := ho.slice
        obtain ⟨n1, hn1⟩ : ∃ n1, t1.length = n1 := ⟨_, rfl⟩
        rw [hn1] at hv1
        have HN1 := Lib.hid hn1
        subst hv1
        clear hN1 hlen1 hl1 ht1 hn1
        have hrow := HW.out.row.grown hg (Ne.symm HW.out.apart)
        have hap : (Value.slice A1 n1 c1).ownBlock ≠ some g := hf.not HW.out.row.lt HW.out.apart
        have hf0 := hrow.thawed 0
        have hf1 := hrow.thawed 1
        have hd0 : w1.cell? ⟨g, 0, none⟩ = some v' := hrow.cell 0
        have hd1 : w1.cell? ⟨g, 1, none⟩ = some (.int .i64 ((0 : Nat) : Int)) := hrow.cell 1
        have HWS := Lib.hid (And.intro ((Wr.set0 hrow ho hap).set1 8 8 rfl) (((HS.out.trans (St.ofOwn hg hf)).trans (St.ofRow (v := .slice A1 n1 c1) (grown_setCell w1 g 0 (.slice A1 n1 c1)))).trans (St.ofRow (v := .slice A1 n1 c1) (grown_setCell _ g 1 (.int .i64 8)))))
        have HRow := Lib.hid hrow
        clear ho hg hf hrow hap hc0 hc1 HW HS
        go_upto_region 4 with fail
        generalize (w1.setCell ⟨g, 0, none⟩ (.slice A1 n1 c1)).setCell ⟨g, 1, none⟩ (.int .i64 8) = w2 at HWS ⊢
        have hW1 := HWS.out.1
        have hS1 := HWS.out.2
        have hN1 := HK.out.1
        have hlen1 := HK.out.2
        clear HWS HRow HNt HLt HR hf0 hf1 HK hd0 hd1
        obtain ⟨R, hR1, hR8, hRe⟩ : ∃ R, 0 < R ∧ R ≤ 8 ∧ 8 = R := ⟨8, by decide, by decide, rfl⟩
        have hW1 : Wr w2 B g (.slice A1 n1 c1) t1 R := by rw [← hRe]; exact hW1
        have hlen1 : 8 * t1.length - R = L + k ∧ t1.length ≤ 1000000 ∧ 0 < t1.length := by rw [← hRe]; exact hlen1
        clear hRe
        obtain ⟨b, c2, _, hv, _, _⟩ := hW1.own.at8 (k := 0) (by omega)
        injection hv with e1 e2 e3
        subst e1 e3
        clear e2
        obtain rfl : n1 = t1.length := HN1.out.symm
        clear HN1
        obtain ⟨T, HT⟩ : ∃ T, RowKit.Hid (t1.length = T + 1) := ⟨t1.length - 1, Lib.hid (by omega)⟩
        obtain ⟨y, hy⟩ : ∃ y, t1[T]? = some y := ⟨_, List.getElem?_eq_getElem (by have := HT.out; omega)⟩
        rw [HT.out] at hW1 hS1 ⊢
        have hc0 := hW1.cell0
        have hc1 := hW1.cell1
        have hown := hW1.own
        unfold Own at hown
        rw [HT.out] at hown
        have hcb := World.ownsRow.cellAt hown T (by omega)
        have hfb := World.ownsRow.frozenAt hown T
        rw [show (us t1)[T]? = some (.int .u8 (y.toNat : Int)) by simp [us, hy]] at hcb
        clear hown
        have hTb : T ≤ 1000000 := by have := HT.out; omega
        have hs : (8 : Int) - (R : Int) = ((8 - R : Nat) : Int) := by omega
        obtain ⟨t2, hW2, hS2, hl2, hn2⟩ := hW1.fill (x := X) HT.out hy hR8 (P := L + k) (by have := HT.out; omega) (by rw [hN1]; exact part_lt N L x k HN.out)
        have HW2 := Lib.hid (And.intro hW2.drew (hS1.trans hS2).drew)
        have HL2 := Lib.hid hl2
        have HN2 := Lib.hid hn2
        have HLen := Lib.hid (show 8 * (T + 1) - R = L + k by have := HT.out; omega)
        have HN1 := Lib.hid hN1
        have HR8 := Lib.hid hlen1
        clear hW1 hW2 hS1 hS2 hl2 hn2 hy hlen1 hN1
        by_cases hnr : m ≤ R
        · go_wp2_with fail
          go_region
          generalize (World.setCell _ _ _).drew = w3 at HW2 ⊢
          have hc1 := HW2.out.1.cell1
          have hf1 := HW2.out.1.row.thawed 1
          have HW3 := Lib.hid (HW2.out.1.set1 (R - m) ((R : Int) - (m : Int)) (by omega))
          have HS3 := Lib.hid (HW2.out.2.trans (St.ofRow (v := .slice (some ⟨b, 0, none⟩) (T + 1) c1) (grown_setCell w3 g 1 (.int .i64 ((R : Int) - (m : Int))))))
          clear HW2 hc0 hcb hfb
          go_wp2_with fail
          go_roundw
          case rel =>
            refine ⟨k + m, _, by omega, ?_, ?_, ?_, HS3.out⟩
            · rw [Nat.pow_add, ← Nat.div_div_eq_div_mul, HX.out]; simp
            · congr 1; omega
            · have e2 : N + x % 2 ^ (k + m) * 2 ^ L = numL t2 := by rw [HN2.out, HN1.out, ← HX.out]; exact (fill_num N L x n k R m HXN.out hk (by omega)).symm
              have hl := HL2.out
              have hlen := HLen.out
              refine ⟨t2, ?_, e2.symm, by omega, part_lt N L x (k + m) HN.out⟩
              rw [hl, show 8 * (T + 1) - (L + (k + m)) = R - m by omega]
              exact HW3.out
          case measure => simp [intOf]; omega
        · go_wp2_with fail
          go_region
          generalize (World.setCell _ _ _).drew = w3 at HW2 ⊢
          have hc1 := HW2.out.1.cell1
          have hf1 := HW2.out.1.row.thawed 1
          have HW3 := Lib.hid (HW2.out.1.set1 (R - R) (0) (by omega))
          have HS3 := Lib.hid (HW2.out.2.trans (St.ofRow (v := .slice (some ⟨b, 0, none⟩) (T + 1) c1) (grown_setCell w3 g 1 (.int .i64 (0)))))
          clear HW2 hc0 hcb hfb
          go_wp2_with fail
          go_roundw
          case rel =>
            refine ⟨k + R, _, by omega, ?_, ?_, ?_, HS3.out⟩
            · rw [Nat.pow_add, ← Nat.div_div_eq_div_mul, HX.out]; simp
            · congr 1; omega
            · have e2 : N + x % 2 ^ (k + R) * 2 ^ L = numL t2 := by rw [HN2.out, HN1.out, ← HX.out]; exact (fill_num N L x n k R R HXN.out hk (by omega)).symm
              have hl := HL2.out
              have hlen := HLen.out
              refine ⟨t2, ?_, e2.symm, by omega, part_lt N L x (k + R) HN.out⟩
              rw [hl, show 8 * (T + 1) - (L + (k + R)) = R - R by omega]
              exact HW3.out
          case measure => simp [intOf]; omega
      · have hc1 := hW.cell1
        have hz : ((r : Int) == 0) = false := by rw [beq_eq_false_iff_ne]; omega
        have HW := Lib.hid (And.intro hW hS)
        have HNt := Lib.hid hNt
        have HLt := Lib.hid hlen
        have HR := Lib.hid hr
        have hr8 : r ≤ 8 := by omega
        have hr1 : 0 < r := by omega
        clear hW hS hNt hlen hr
        go_upto_region 4 with fail
        have hW1 := HW.out.1
        have hS1 := HW.out.2
        have hN1 := HNt.out
        obtain ⟨w1, hw1⟩ : ∃ w1, wr = w1 := ⟨_, rfl⟩
        have hlen1 : 8 * t.length - r = L + k ∧ t.length ≤ 1000000 ∧ 0 < t.length := by have := HR.out; have := HLt.out; omega
        rw [hw1] at hW1 hS1 ⊢
        clear HW HNt HLt HR hc1 hw1
        have hR1 := hr1
        have hR8 := hr8
        clear hr1 hr8
        obtain ⟨b, c2, _, rfl, _, _⟩ := hW1.own.at8 (k := 0) (by omega)
        obtain ⟨T, HT⟩ : ∃ T, RowKit.Hid (t.length = T + 1) := ⟨t.length - 1, Lib.hid (by omega)⟩
        obtain ⟨y, hy⟩ : ∃ y, t[T]? = some y := ⟨_, List.getElem?_eq_getElem (by have := HT.out; omega)⟩
        rw [HT.out] at hW1 hS1
        have hc0 := hW1.cell0
        have hc1 := hW1.cell1
        have hown := hW1.own
        unfold Own at hown
        rw [HT.out] at hown
        have hcb := World.ownsRow.cellAt hown T (by omega)
        have hfb := World.ownsRow.frozenAt hown T
        rw [show (us t)[T]? = some (.int .u8 (y.toNat : Int)) by simp [us, hy]] at hcb
        clear hown
        have hTb : T ≤ 1000000 := by have := HT.out; omega
        have hs : (8 : Int) - (r : Int) = ((8 - r : Nat) : Int) := by omega
        obtain ⟨t2, hW2, hS2, hl2, hn2⟩ := hW1.fill (x := X) HT.out hy hR8 (P := L + k) (by have := HT.out; omega) (by rw [hN1]; exact part_lt N L x k HN.out)
        have HW2 := Lib.hid (And.intro hW2.drew (hS1.trans hS2).drew)
        have HL2 := Lib.hid hl2
        have HN2 := Lib.hid hn2
        have HLen := Lib.hid (show 8 * (T + 1) - r = L + k by have := HT.out; omega)
        have HN1 := Lib.hid hN1
        have HR8 := Lib.hid hlen1
        clear hW1 hW2 hS1 hS2 hl2 hn2 hy hlen1 hN1
        by_cases hnr : m ≤ r
        · go_wp2_with fail
          go_region
          generalize (World.setCell _ _ _).drew = w3 at HW2 ⊢
          have hc1 := HW2.out.1.cell1
          have hf1 := HW2.out.1.row.thawed 1
          have HW3 := Lib.hid (HW2.out.1.set1 (r - m) ((r : Int) - (m : Int)) (by omega))
          have HS3 := Lib.hid (HW2.out.2.trans (St.ofRow (v := .slice (some ⟨b, 0, none⟩) (T + 1) c2) (grown_setCell w3 g 1 (.int .i64 ((r : Int) - (m : Int))))))
          clear HW2 hc0 hcb hfb
          go_wp2_with fail
          go_roundw
          case rel =>
            refine ⟨k + m, _, by omega, ?_, ?_, ?_, HS3.out⟩
            · rw [Nat.pow_add, ← Nat.div_div_eq_div_mul, HX.out]; simp
            · congr 1; omega
            · have e2 : N + x % 2 ^ (k + m) * 2 ^ L = numL t2 := by rw [HN2.out, HN1.out, ← HX.out]; exact (fill_num N L x n k r m HXN.out hk (by omega)).symm
              have hl := HL2.out
              have hlen := HLen.out
              refine ⟨t2, ?_, e2.symm, by omega, part_lt N L x (k + m) HN.out⟩
              rw [hl, show 8 * (T + 1) - (L + (k + m)) = r - m by omega]
              exact HW3.out
          case measure => simp [intOf]; omega
        · go_wp2_with fail
          go_region
          generalize (World.setCell _ _ _).drew = w3 at HW2 ⊢
          have hc1 := HW2.out.1.cell1
          have hf1 := HW2.out.1.row.thawed 1
          have HW3 := Lib.hid (HW2.out.1.set1 (r - r) (0) (by omega))
          have HS3 := Lib.hid (HW2.out.2.trans (St.ofRow (v := .slice (some ⟨b, 0, none⟩) (T + 1) c2) (grown_setCell w3 g 1 (.int .i64 (0)))))
          clear HW2 hc0 hcb hfb
          go_wp2_with fail
          go_roundw
          case rel =>
            refine ⟨k + r, _, by omega, ?_, ?_, ?_, HS3.out⟩
            · rw [Nat.pow_add, ← Nat.div_div_eq_div_mul, HX.out]; simp
            · congr 1; omega
            · have e2 : N + x % 2 ^ (k + r) * 2 ^ L = numL t2 := by rw [HN2.out, HN1.out, ← HX.out]; exact (fill_num N L x n k r r HXN.out hk (by omega)).symm
              have hl := HL2.out
              have hlen := HLen.out
              refine ⟨t2, ?_, e2.symm, by omega, part_lt N L x (k + r) HN.out⟩
              rw [hl, show 8 * (T + 1) - (L + (k + r)) = r - r by omega]
              exact HW3.out
          case measure => simp [intOf]; omega
    · have hkn : k = n := by omega
      subst hkn
      have hd : decide (0 < (m : Int)) = false := decide_eq_false (by omega)
      have HW := Lib.hid hW
      have HS := Lib.hid hS
      clear hW hS
      go_wp2_with fail
      refine bodyPost_end (results_none rfl _ _ _) rfl ?_
      refine ⟨rfl, _, ?_, HS.out⟩
      have := HW.out
      rwa [Nat.mod_eq_of_lt HXN.out] at this
end Go.Proofs.YtpnnlhegncbfaaaGreatDoor
