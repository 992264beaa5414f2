/- Rows of a script; contract of the law's proper. -/
import Derived.Test.YtmjpdncgapbfpaaPlayRun
namespace Go.Proofs.Ytmjpdncgapbfpaa
open Go.RowKit

theorem play_all : ∀ f, PlaySaid f := fun f => Nat.strongRecOn f fun n ih => play_step n ih

def opC (o : Sc) : List Value := [.int .i64 (o.k : Int), .int .i64 o.c, .string o.t]
def opsC : List Sc → List Value
  | [] => []
  | o :: r => opC o ++ opsC r
theorem opsC_append (a b : List Sc) : opsC (a ++ b) = opsC a ++ opsC b := by
  induction a with
  | nil => rfl
  | cons x a ih => simp [opsC, ih]
theorem opsC_length (a : List Sc) : (opsC a).length = a.length * 3 := by
  induction a with
  | nil => rfl
  | cons x a ih => simp [opsC, opC, ih]; omega
theorem opsC_one (l : List Sc) : ∀ u ∈ opsC l, u.oneCell' = true := by
  induction l with
  | nil => intro u hu; cases hu
  | cons x a ih =>
    intro u hu
    rcases List.mem_append.1 hu with h | h
    · simp only [opC, List.mem_cons, List.not_mem_nil, or_false] at h
      rcases h with rfl | rfl | rfl <;> rfl
    · exact ih u h
theorem opsC_at : ∀ (l : List Sc) (i : Nat) (x : Sc), l[i]? = some x → ∀ j u, (opC x)[j]? = some u → (opsC l)[i * 3 + j]? = some u
  | y :: r, 0, x, h, j, u, hu => by
    injection h with h
    subst h
    rw [opsC, List.getElem?_append_left (by have := (List.getElem?_eq_some_iff.1 hu).1; simpa using this)]
    simpa using hu
  | y :: r, i + 1, x, h, j, u, hu => by
    rw [opsC, List.getElem?_append_right (by simp [opC]; omega)]
    have := opsC_at r i x (by simpa using h) j u hu
    rw [show (i + 1) * 3 + j - (opC y).length = i * 3 + j by simp [opC]; omega]
    exact this

theorem info26 : (Try.prog.info? 26).map (fun i => (i.zero, i.size, i.bytes)) = some (some (.agg #[.int .i64 0, .int .i64 0, .string ⟨#[]⟩]), 3, 32) := by kernel_rfl

def OwnO (w : World) (B : Nat) (v : Value) (l : List Sc) : Prop := w.ownsRow B 26 3 v l.length (opsC l)

theorem OwnO.lit0 (w : World) : OwnO (w.alloc (.cells #[] 26)) w.heap.size (.slice (some ⟨w.heap.size, 0, none⟩) 0 0) [] :=
  ⟨rfl, .inr ⟨w.heap.size, 0, #[], rfl, Nat.le_refl _, heap_alloc_new w _, Nat.le_refl _, by unfold maxLen; omega, rfl, rfl⟩⟩

theorem OwnO.rd {w : World} {B : Nat} {v : Value} {l : List Sc} (h : OwnO w B v l) : ∃ A c, v = .slice A l.length c ∧ RdO w w.heap.size A l.length l ∧ (∀ g o, A = some ⟨g, o, none⟩ → B ≤ g ∧ g < w.heap.size) := by
  rcases h.2 with ⟨hv, hn⟩ | ⟨g, cap, cur, hv, hb, hg, rest⟩
  · refine ⟨none, 0, by rw [hv, hn], ⟨rfl, fun h0 => by omega⟩, fun g o e => by cases e⟩
  · have hlt := (Array.getElem?_eq_some_iff.1 hg).1
    refine ⟨_, _, hv, ⟨rfl, fun _ => ⟨g, 0, rfl, hlt, fun i x hx => ?_⟩⟩, fun g' o e => by injection e with e; injection e with e1 e2; subst e1; exact ⟨hb, hlt⟩⟩
    have hc : ∀ j u, (opC x)[j]? = some u → w.cell? ⟨g, 0 + i * 3 + j, none⟩ = some u := fun j u hu => by
      have := World.ownsRow.cells h (g := g) (by rw [hv]; rfl) (i * 3 + j) u (opsC_at l i x hx j u hu)
      rw [Go.WideShapes.add_plain] at this
      rw [Nat.add_assoc]
      exact this
    exact ⟨hc 0 _ rfl, hc 1 _ rfl, hc 2 _ rfl⟩

theorem pushO {ops : Array Oper} {rest : List Oper} {o : Oper} {a : Act} {Q : Exit → Act → World → Prop} (w0 : World) (H : Nat) (hH : w0.heap.size = H) (hgd : o.guard = none) (s x : Operand)
    (ho : o.op = .call { callee := .builtin .append, args := #[s, x], argTypes := #[22, 22] })
    (B : Nat) (v : Value) (l : List Sc) (b : Sc) (cs : Array Value) (hs : a.eval s = v) (hx : a.eval x = .slice (some ⟨H, 0, none⟩) 1 1)
    (hown : OwnO w0 B v l) (hcs : cs.toList = opC b) (hB : B ≤ w0.heap.size) (hl : l.length ≤ 10000)
    (h : ∀ v' w', OwnO w' B v' (l ++ [b]) → w0.grownBy w' v.ownBlock → wpList Try.prog ops Q rest (a.put o.dst v') w') :
    wpList Try.prog ops Q (o :: rest) a (w0.alloc (.cells cs 26)) := by
  subst hH
  obtain ⟨i0, hi, hz0, hz1, hz2⟩ := info_parts info26
  have hc1 : opC b = opsC [b] := by simp [opsC]
  refine wpList_append_own_at _ hgd s x 22 ho B 26 i0 _ 3 32 Try.underlying22 hi hz0 hz1 hz2 rfl (by decide) v l.length (opsC l) hs (World.ownsRow.alloc hown _)
    ⟨w0.heap.size, 0, none⟩ 1 1 (opsC [b]) hx (by rw [opsC_length]; rfl) ?_ (opsC_one _) (by unfold maxLen; omega) (by omega) (by simp; omega) ?_
  · rw [← hc1, ← hcs]; exact cells_new40 w0 cs 26
  · intro v' w' h1 h2 _ _
    refine h v' w' ?_ ((World.grownBy_alloc w0 _ _).trans h2)
    unfold OwnO
    rw [List.length_append, opsC_append]
    exact h1

/-- A script as it comes in. -/
structure Raw where
  k : Int
  c : Int
  t : ByteArray

def RdW (w : World) (B : Nat) (A : Option Addr) (n : Nat) (l : List Raw) : Prop :=
  l.length = n ∧ (0 < n → ∃ g o, A = some ⟨g, o, none⟩ ∧ g < B ∧ ∀ i x, l[i]? = some x →
    w.cell? ⟨g, o + i * 3, none⟩ = some (.int .i64 x.k) ∧ w.cell? ⟨g, o + i * 3 + 1, none⟩ = some (.int .i64 x.c) ∧ w.cell? ⟨g, o + i * 3 + 2, none⟩ = some (.string x.t))

def pk (x : Int) : Nat := (IntKind.u64.wrap x % 7).toNat
theorem pk_lt (x : Int) : pk x < 7 := by unfold pk; omega
theorem pk_eq (x : Int) : wrap64 ((IntKind.u64.wrap x).tmod 7) = (pk x : Int) := by
  have h0 := wrap_u64_nonneg x
  rw [Int.tmod_eq_emod_of_nonneg h0]
  unfold pk
  rw [IntWalk.wrap64_in _ (by omega)]
  omega
theorem pk_eq' (x : Int) : IntKind.u64.wrap x % 7 = (pk x : Int) := by
  have h0 := wrap_u64_nonneg x
  unfold pk
  omega

def prop (x : Raw) : Sc := ⟨pk x.k, x.c, x.t⟩

def Propered (l : List Raw) (w : World) (e : Ending) (w' : World) : Prop := ∃ v, e = .returned v ∧ OwnO w' w.heap.size v (l.map prop) ∧ Below w.heap.size w w'

set_option maxHeartbeats 1000000 in
theorem proper_any (A : Option Addr) (n c : Nat) (l : List Raw) (w : World) (hr : RdW w w.heap.size A n l) (hn : n ≤ 60) : Calls Try.prog 8 #[.slice A n c] w (Propered l w) := by
  have HL := Lib.hid hr.1
  have HR := Lib.hid hr
  clear hr
  go_enter Try.func8, Try.ntmps8
  go_wp2_with fail
  have hO := OwnO.lit0 w
  have hB : Below w.heap.size w (w.alloc (.cells #[] 26)) := (Below.refl _ _).alloc (Nat.le_refl _) _
  generalize (Value.slice (some ⟨w.heap.size, 0, none⟩) 0 0) = v0 at hO ⊢
  generalize w.alloc (.cells #[] 26) = w0 at hO hB ⊢
  go_loopw [3, 9] (fun v ix wr => ∃ k : Nat, k ≤ n ∧ ix = .int .i64 k ∧ OwnO wr w.heap.size v ((l.take k).map prop) ∧ Below w.heap.size w wr) (fun _ ix _ => n - (intOf ix).toNat)
  case atStart => exact ⟨0, by omega, rfl, hO, hB⟩
  case round =>
    clear hO hB
    obtain ⟨k, hk, rfl, hO, hB⟩ := hrel
    have HO := Lib.hid hO
    have HB := Lib.hid hB
    clear hO hB
    by_cases hlt : k < n
    · obtain ⟨x, hx⟩ : ∃ x, l[k]? = some x := ⟨_, List.getElem?_eq_getElem (by rw [HL.out]; exact hlt)⟩
      obtain ⟨ob, off, rfl, hob, hc⟩ := HR.out.2 (by omega)
      obtain ⟨c0, c1, c2⟩ := hc k x hx
      have c0' := (HB.out.cell (p := ⟨ob, off + k * 3, none⟩) hob).trans c0
      have c1' := (HB.out.cell (p := ⟨ob, off + k * 3 + 1, none⟩) hob).trans c1
      have c2' := (HB.out.cell (p := ⟨ob, off + k * 3 + 2, none⟩) hob).trans c2
      have HX := Lib.hid hx
      clear hc hx c0 c1 c2
      have d0 : decide ((k : Int) < (n : Int)) = true := by simp; omega
      have hpk := pk_eq x.k
      have hpk' := pk_eq' x.k
      have HOA := Lib.hid (show OwnO (wr.alloc (.cells #[.int .i64 (pk x.k : Int), .int .i64 x.c, .string x.t] 26)) w.heap.size u3 ((l.take k).map prop) from World.ownsRow.alloc HO.out _)
      have hBA : w.heap.size ≤ (wr.alloc (.cells #[.int .i64 (pk x.k : Int), .int .i64 x.c, .string x.t] 26)).heap.size := by have := HB.out.size; simp; omega
      have HBA := Lib.hid hBA
      have HH := Lib.hid (show (wr.alloc (.cells #[.int .i64 (pk x.k : Int), .int .i64 x.c, .string x.t] 26)).heap.size = wr.heap.size + 1 by simp)
      have hll : ((l.take k).map prop).length ≤ 10000 := by rw [List.length_map, List.length_take]; omega
      have HLL := Lib.hid hll
      clear hBA hll
      go_wp2_with (at_builtin; refine pushO (wr.alloc (.cells #[.int .i64 (pk x.k : Int), .int .i64 x.c, .string x.t] 26)) (wr.heap.size + 1) HH.out rfl (.tmp 19) (.tmp 21) rfl w.heap.size u3 ((l.take k).map prop) (prop x) _ rfl rfl HOA.out rfl HBA.out HLL.out ?_)
      intro v' w' ho hg
      have hB2 : Below w.heap.size w w' := (HB.out.alloc HB.out.size _).grown hg HBA.out fun q hq => (World.ownsRow.lt HOA.out q hq).1
      have hO2 : OwnO w' w.heap.size v' ((l.take (k + 1)).map prop) := by
        have ht : l.take (k + 1) = l.take k ++ [x] := by
          obtain ⟨hk', rfl⟩ := List.getElem?_eq_some_iff.1 HX.out
          exact List.take_succ_eq_append_getElem hk'
        rw [ht, List.map_append]
        simpa using ho
      have HB2 := Lib.hid hB2
      have HO2 := Lib.hid hO2
      clear ho hg hB2 hO2
      go_wp2_with fail
      go_roundw
      case rel => exact ⟨k + 1, by omega, by go_num, HO2.out, HB2.out⟩
      case measure => simp [intOf]; omega
    · have ht : l.take k = l := List.take_of_length_le (by rw [HL.out]; omega)
      rw [ht] at HO
      have d0 : decide ((k : Int) < (n : Int)) = false := by simp; omega
      clear ht
      go_wp2_with fail
      go_ret
      exact ⟨_, rfl, HO.out, HB.out⟩
end Go.Proofs.Ytmjpdncgapbfpaa
