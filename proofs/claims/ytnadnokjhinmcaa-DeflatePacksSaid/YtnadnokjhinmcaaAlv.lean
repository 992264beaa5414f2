/- Contracts of alive, document and crossdocknum's Bytes. -/
import Derived.Test.YtnadnokjhinmcaaTkn
import Derived.Lib.SlBytesConst
namespace Go.Proofs.Ytnadnokjhinmcaa
open Go.RowKit

theorem known : toksT [97, 97, 97, 97] = [⟨97, 0, 0⟩, ⟨0, 3, 1⟩] := by decide +kernel
/-- Bytes that were just laid in a block of their own read as their list. -/
theorem Rd.laid (w : World) (cs : Array Value) (fr : Nat × Nat) (l : List UInt8) (n : Nat) (h : cs.toList = us l) (hn : l.length = n) :
    Rd (w.alloc (.cells cs 5 fr)) (w.alloc (.cells cs 5 fr)).heap.size (some ⟨w.heap.size, 0, none⟩) n (us l) := by
  refine ⟨by rw [us_length, hn], fun _ => ⟨w.heap.size, 0, rfl, by simp, fun j u hu => ?_⟩⟩
  have hc : ∀ j u, cs.toList[j]? = some u → (w.alloc (.cells cs 5 fr)).cell? ((⟨w.heap.size, 0, none⟩ : Addr).add j) = some u := World.news_of_block (fr := fr) (by exact heap_alloc_new w _)
  have := hc j u (by rw [h]; exact hu)
  rw [Go.WideShapes.add_plain] at this
  exact this
theorem eq_tok (w : World) : (binOp .eql 45 (.agg #[.int .u8 97, .int .i64 0, .int .i64 0]) (.agg #[.int .u8 97, .int .i64 0, .int .i64 0])).run Try.prog w = .ok (.bool true) w := by kernel_rfl
theorem eq_tok2 (w : World) : (binOp .eql 45 (.agg #[.int .u8 0, .int .i64 3, .int .i64 1]) (.agg #[.int .u8 0, .int .i64 3, .int .i64 1])).run Try.prog w = .ok (.bool true) w := by kernel_rfl
set_option maxHeartbeats 1000000 in
set_option maxRecDepth 10000 in
theorem alive_true (w : World) : Calls Try.prog 6 #[] w fun e w' => e = .returned (.bool true) ∧ Below w.heap.size w w' := by
  have kc := fun (w : World) (C : Array Value) (n c : Nat) => Lib.run_convert_bytes_const (P := Try.prog) w 22 5 C n c Try.underlying22 Try.underlying5
  go_enter Try.func6, Try.ntmps6
  go_wp2_with fail
  have hb : Below w.heap.size w (w.alloc (.cells #[.int .u8 97, .int .u8 97, .int .u8 97, .int .u8 97] 5 (4, 5))) := (Below.refl _ _).alloc (Nat.le_refl _) _
  have ho := Rd.laid w #[.int .u8 97, .int .u8 97, .int .u8 97, .int .u8 97] (4, 5) [97, 97, 97, 97] 4 rfl rfl
  clear kc
  refine (tokens_any _ 4 4 _ _ ho (by decide)).mono ?_
  generalize w.alloc (.cells #[.int .u8 97, .int .u8 97, .int .u8 97, .int .u8 97] 5 (4, 5)) = w1 at hb ho ⊢
  rintro e w2 ⟨v, rfl, hown, hb2⟩
  rw [known] at hown
  have HB := Lib.hid (hb.trans (hb2.mono hb.size))
  obtain ⟨A, c, rfl, _, hrd⟩ := hown.rd
  obtain ⟨g, o, a0, rfl, hg, ha0, c0, c1, c2⟩ := hrd.cells (k := 0) (by decide)
  obtain ⟨g', o', a1, hgo, _, ha1, k0, k1, k2⟩ := hrd.cells (k := 1) (by decide)
  injection hgo with hgo
  injection hgo with e1 e2
  subst e1 e2
  injection ha0 with ha0
  injection ha1 with ha1
  subst ha0 ha1
  have q1 := eq_tok w2
  have q2 := eq_tok2 w2
  have x0 : w2.cell? ⟨g, o, none⟩ = some (.int .u8 97) := c0
  have x1 : w2.cell? ⟨g, o + 1, none⟩ = some (.int .i64 0) := by simpa using c1
  have x2 : w2.cell? ⟨g, o + 2, none⟩ = some (.int .i64 0) := by simpa using c2
  have x3 : w2.cell? ⟨g, o + 3, none⟩ = some (.int .u8 0) := by simpa using k0
  have x4 : w2.cell? ⟨g, o + 4, none⟩ = some (.int .i64 3) := by simpa using k1
  have x5 : w2.cell? ⟨g, o + 5, none⟩ = some (.int .i64 1) := by simpa using k2
  clear hb ho hb2 hown hrd hg c0 c1 c2 k0 k1 k2
  go_wp2_with fail
  go_ret
  exact ⟨rfl, HB.out⟩
end Go.Proofs.Ytnadnokjhinmcaa
