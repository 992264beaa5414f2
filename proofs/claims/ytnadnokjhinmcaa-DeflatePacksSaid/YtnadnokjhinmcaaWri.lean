
/- What a Writer is in memory; contract of write. -/
import Derived.Test.YtnadnokjhinmcaaSml
import Derived.BigRegion
namespace Go.Proofs.Ytnadnokjhinmcaa
open Go.RowKit

/-- Block g holds a writer whose bytes, in the row v, are t, with so much room. -/
structure Wr (w : World) (B g : Nat) (v : Value) (t : List UInt8) (room : Nat) : Prop where
  row : Row w g #[v, .int .i64 (room : Int)] 89
  own : Own w B v t
  apart : v.ownBlock ≠ some g
/-- What a step of a writer leaves alone. -/
structure St (w : World) (g : Nat) (v : Value) (w' : World) (v' : Value) : Prop where
  os : w'.os = w.os
  tape : w'.tape = w.tape
  output : w'.output = w.output
  size : w.heap.size ≤ w'.heap.size
  block : ∀ k, k < w.heap.size → k ≠ g → v.ownBlock ≠ some k → w'.heap[k]? = w.heap[k]?
  fresh : Fresh w v v'
theorem St.refl (w : World) (g : Nat) (v : Value) : St w g v w v := ⟨rfl, rfl, rfl, Nat.le_refl _, fun _ _ _ _ => rfl, Fresh.same _ _⟩
theorem Fresh.not {w : World} {v v' : Value} (h : Fresh w v v') {k : Nat} (hk : k < w.heap.size) (hv : v.ownBlock ≠ some k) : v'.ownBlock ≠ some k := by
  rcases h with h | ⟨j, h, hj⟩
  · rw [h]; exact hv
  · rw [h]; intro e; injection e with e; omega
theorem Fresh.trans {w w1 : World} {v v1 v2 : Value} (h : Fresh w v v1) (h' : Fresh w1 v1 v2) (hs : w.heap.size ≤ w1.heap.size) : Fresh w v v2 := by
  rcases h' with h' | ⟨j, h', hj⟩
  · rcases h with h | ⟨i, h, hi⟩
    · exact .inl (h'.trans h)
    · exact .inr ⟨i, h'.trans h, hi⟩
  · exact .inr ⟨j, h', by omega⟩
theorem St.trans {w w1 w2 : World} {g : Nat} {v v1 v2 : Value} (h : St w g v w1 v1) (h' : St w1 g v1 w2 v2) : St w g v w2 v2 :=
  ⟨h'.os.trans h.os, h'.tape.trans h.tape, h'.output.trans h.output, Nat.le_trans h.size h'.size,
    fun k hk hg hv => (h'.block k (Nat.lt_of_lt_of_le hk h.size) hg (h.fresh.not hk hv)).trans (h.block k hk hg hv), h.fresh.trans h'.fresh h.size⟩
theorem St.ofRow {w w' : World} {g : Nat} {v : Value} (h : w.grownBy w' (some g)) : St w g v w' v :=
  ⟨h.os, h.tape, h.output, h.size, fun k hk hg _ => h.block k hk (fun e => hg (by injection e)), Fresh.same _ _⟩
theorem St.ofOwn {w w' : World} {g : Nat} {v v' : Value} (h : w.grownBy w' v.ownBlock) (hf : Fresh w v v') : St w g v w' v' :=
  ⟨h.os, h.tape, h.output, h.size, fun k hk _ hv => h.block k hk (fun e => hv e.symm), hf⟩
theorem St.drew {w w' : World} {g : Nat} {v v' : Value} (h : St w g v w' v') : St w g v w'.drew v' := ⟨h.os, h.tape, h.output, h.size, h.block, h.fresh⟩
theorem St.below {w w' : World} {B g : Nat} {v v' : Value} {t : List UInt8} {room : Nat} (h : St w g v w' v') (hW : Wr w B g v t room) (hB : B ≤ w.heap.size) (hg : B ≤ g) : Below B w w' :=
  ⟨h.os, h.tape, h.output, h.size, fun k hk => h.block k (by omega) (by omega) (fun e => by have := (World.ownsRow.lt hW.own k e).1; omega)⟩

theorem Wr.drew {w : World} {B g : Nat} {v : Value} {t : List UInt8} {room : Nat} (h : Wr w B g v t room) : Wr w.drew B g v t room := ⟨h.row, h.own.drew, h.apart⟩
theorem Wr.cell0 {w : World} {B g : Nat} {v : Value} {t : List UInt8} {room : Nat} (h : Wr w B g v t room) : w.cell? ⟨g, 0, none⟩ = some v := h.row.cell 0
theorem Wr.cell1 {w : World} {B g : Nat} {v : Value} {t : List UInt8} {room : Nat} (h : Wr w B g v t room) : w.cell? ⟨g, 1, none⟩ = some (.int .i64 (room : Int)) := h.row.cell 1
theorem Wr.set1 {w : World} {B g : Nat} {v : Value} {t : List UInt8} {room : Nat} (h : Wr w B g v t room) (r : Nat) (z : Int) (hz : z = (r : Int)) : Wr (w.setCell ⟨g, 1, none⟩ (.int .i64 z)) B g v t r := by
  subst hz
  exact ⟨h.row.set 1 _, World.ownsRow.kept h.own (grown_setCell w g 1 _) (.inr h.apart), h.apart⟩
/-- The text is another row now. -/
theorem Wr.set0 {w : World} {B g : Nat} {v v' : Value} {t' : List UInt8} {room : Nat} (h : Row w g #[v, .int .i64 (room : Int)] 89) (ho : Own w B v' t') (ha : v'.ownBlock ≠ some g) : Wr (w.setCell ⟨g, 0, none⟩ v') B g v' t' room :=
  ⟨h.set 0 _, World.ownsRow.kept ho (grown_setCell w g 0 _) (.inr ha), ha⟩
/-- A byte of the text is another one now. -/
theorem Wr.setByte {w : World} {B g b n c : Nat} {t : List UInt8} {room : Nat} (h : Wr w B g (.slice (some ⟨b, 0, none⟩) n c) t room) (hn : t.length = n) (i : Nat) (y : UInt8) (z : Int) (hz : z = (y.toNat : Int)) :
    Wr (w.setCell ⟨b, i, none⟩ (.int .u8 z)) B g (.slice (some ⟨b, 0, none⟩) n c) (t.set i y) room ∧ w.grownBy (w.setCell ⟨b, i, none⟩ (.int .u8 z)) (Value.slice (some ⟨b, 0, none⟩) n c).ownBlock := by
  subst hz
  have hown := h.own
  unfold Own at hown
  rw [hn] at hown
  obtain ⟨h1, h2⟩ := World.ownsRow.stored hown i (U8 y)
  refine ⟨⟨h.row.other ?_ _ _, ?_, h.apart⟩, h2⟩
  · intro e
    exact h.apart (by rw [e]; rfl)
  · unfold Own
    rw [List.length_set, hn, show us (t.set i y) = (us t).set i (U8 y) by simp [us]]
    exact h1


/-- Block g holds a writer of L bits, which are the number N. -/
def WS (w : World) (B g : Nat) (v : Value) (N L : Nat) : Prop := ∃ t, Wr w B g v t (8 * t.length - L) ∧ numL t = N ∧ t.length = (L + 7) / 8 ∧ N < 2 ^ L

theorem last_lt {t : List UInt8} {T P s : Nat} {y : UInt8} (hy : t[T]? = some y) (hP : P = 8 * T + s) (hN : numL t < 2 ^ P) (hT : t.length = T + 1) : y.toNat < 2 ^ s := by
  have h1 := numL_at t T y hy
  have h2 := numL_lt t
  rw [hT, show 8 * (T + 1) = 8 * T + 8 by omega, Nat.pow_add] at h2
  have h3 : numL t / 2 ^ (8 * T) < 256 := by rw [Nat.div_lt_iff_lt_mul (Nat.two_pow_pos _), Nat.mul_comm]; exact h2
  rw [Nat.mod_eq_of_lt h3] at h1
  rw [h1, Nat.div_lt_iff_lt_mul (Nat.two_pow_pos _), ← Nat.pow_add, Nat.add_comm, ← hP]
  exact hN
/-- The byte that the last one becomes. -/
def filled (y : UInt8) (x room : Nat) : UInt8 := UInt8.ofNat (y.toNat + x % 2 ^ room * 2 ^ (8 - room))
theorem shl_mod (x room : Nat) (hr : room ≤ 8) : x * 2 ^ (8 - room) % 256 = x % 2 ^ room * 2 ^ (8 - room) := by
  have h : (256 : Nat) = 2 ^ room * 2 ^ (8 - room) := by rw [← Nat.pow_add, show room + (8 - room) = 8 by omega]
  rw [h, Nat.mul_mod_mul_right]
theorem filled_toNat (y : UInt8) (x room : Nat) (hr : room ≤ 8) (hy : y.toNat < 2 ^ (8 - room)) : (filled y x room).toNat = y.toNat + x % 2 ^ room * 2 ^ (8 - room) := by
  unfold filled
  rw [UInt8.toNat_ofNat', Nat.mod_eq_of_lt]
  have h : (256 : Nat) = 2 ^ room * 2 ^ (8 - room) := by rw [← Nat.pow_add, show room + (8 - room) = 8 by omega]
  have hm : x % 2 ^ room < 2 ^ room := Nat.mod_lt _ (Nat.two_pow_pos _)
  have := Nat.mul_le_mul_right (2 ^ (8 - room)) hm
  rw [Nat.succ_mul] at this
  show _ < 256
  omega
theorem filled_or (y : UInt8) (x room : Nat) (hr : room ≤ 8) (hy : y.toNat < 2 ^ (8 - room)) : bits .or .u8 (y.toNat : Int) ((x : Int) * 2 ^ (8 - room) % 256) = ((filled y x room).toNat : Int) := by
  have h1 : (x : Int) * 2 ^ (8 - room) % 256 = ((x * 2 ^ (8 - room) % 256 : Nat) : Int) := by simp
  have h2 := filled_toNat y x room hr hy
  rw [h1, u8_or_nat _ _ y.toNat_lt (Nat.mod_lt _ (by decide)), shl_mod x room hr, or_add _ _ _ hy, h2]

/-- What the row comes to when the last byte was filled. -/
theorem Wr.fill {w : World} {B g b c T room x : Nat} {t : List UInt8} {y : UInt8} {P : Nat} (h : Wr w B g (.slice (some ⟨b, 0, none⟩) (T + 1) c) t room) (hT : t.length = T + 1) (hy : t[T]? = some y) (hr : room ≤ 8) (hP : P = 8 * (T + 1) - room) (hN : numL t < 2 ^ P) :
    ∃ t', Wr (w.setCell ⟨b, T, none⟩ (.int .u8 (bits .or .u8 (y.toNat : Int) ((x : Int) * 2 ^ (8 - room) % 256)))) B g (.slice (some ⟨b, 0, none⟩) (T + 1) c) t' room ∧
      St w g (.slice (some ⟨b, 0, none⟩) (T + 1) c) (w.setCell ⟨b, T, none⟩ (.int .u8 (bits .or .u8 (y.toNat : Int) ((x : Int) * 2 ^ (8 - room) % 256)))) (.slice (some ⟨b, 0, none⟩) (T + 1) c) ∧
      t'.length = T + 1 ∧ numL t' = numL t + x % 2 ^ room * 2 ^ P := by
  have hlt : y.toNat < 2 ^ (8 - room) := last_lt hy (by omega) hN hT
  obtain ⟨h1, h2⟩ := h.setByte hT T (filled y x room) _ (filled_or y x room hr hlt)
  refine ⟨_, h1, St.ofOwn h2 (Fresh.same _ _), by rw [List.length_set, hT], ?_⟩
  have h3 := numL_set t T y (filled y x room) hy
  rw [filled_toNat y x room hr hlt, Nat.add_mul, Nat.mul_assoc, ← Nat.pow_add, show 8 - room + 8 * T = P by omega] at h3
  omega

/-- One round's number. -/
theorem fill_num (N L x n k room d : Nat) (hx : x < 2 ^ n) (hk : k ≤ n) (hd : d = min (n - k) room) :
    N + x % 2 ^ k * 2 ^ L + x / 2 ^ k % 2 ^ room * 2 ^ (L + k) = N + x % 2 ^ (k + d) * 2 ^ L := by
  have h1 : x / 2 ^ k % 2 ^ room = x / 2 ^ k % 2 ^ d := by
    by_cases h : room ≤ n - k
    · rw [hd, Nat.min_eq_right h]
    · have hX : x / 2 ^ k < 2 ^ (n - k) := by
        rw [Nat.div_lt_iff_lt_mul (Nat.two_pow_pos _), ← Nat.pow_add, show n - k + k = n by omega]; exact hx
      have hX2 : x / 2 ^ k < 2 ^ room := Nat.lt_of_lt_of_le hX (Nat.pow_le_pow_right (by decide) (by omega))
      rw [hd, Nat.min_eq_left (by omega), Nat.mod_eq_of_lt hX, Nat.mod_eq_of_lt hX2]
  rw [h1, Nat.pow_add 2 k d, Nat.mod_mul, Nat.add_mul, Nat.pow_add 2 L k, Nat.add_assoc]
  congr 1
  rw [Nat.mul_comm (2 ^ L) (2 ^ k), ← Nat.mul_assoc, Nat.mul_comm (x / 2 ^ k % 2 ^ d) (2 ^ k)]
theorem part_lt (N L x k : Nat) (hN : N < 2 ^ L) : N + x % 2 ^ k * 2 ^ L < 2 ^ (L + k) := by
  have hm : x % 2 ^ k < 2 ^ k := Nat.mod_lt _ (Nat.two_pow_pos _)
  have := Nat.mul_le_mul_right (2 ^ L) hm
  rw [Nat.succ_mul] at this
  rw [Nat.pow_add, Nat.mul_comm (2 ^ L)]
  omega

end Go.Proofs.Ytnadnokjhinmcaa
