/- Contracts of digest.Parse (and what it calls), Is, Short, Long and Verify. -/
import Derived.Test.YtbklcelnnmhgkaaDoorCut
import Derived.Laws.CopyOwn
namespace Go.Proofs.YtbklcelnnmhgkaaDoor
open Go.RowKit

def zero32 : List UInt8 := List.replicate 32 0
/-- What Parse answers: the digest and no error, or the zero digest and ErrForm. -/
def Told (w : World) (r : Option (List UInt8)) (e : Ending) (w' : World) : Prop :=
  match r with
  | some L => e = .returned (.tuple #[.agg (u8s L), .nilIface]) ∧ Below w.heap.size w w'
  | none => e = .returned (.tuple #[.agg (u8s zero32), .iface 37 (.int .i64 2)]) ∧ Below w.heap.size w w'

theorem Told.mk_none {w w' : World} {r : Option (List UInt8)} (h : r = none) (hb : Below w.heap.size w w') : Told w r (.returned (.tuple #[.agg (u8s zero32), .iface 37 (.int .i64 2)])) w' := by
  rw [h]; exact ⟨rfl, hb⟩
theorem Told.mk_some {w w' : World} {r : Option (List UInt8)} {L : List UInt8} (h : r = some L) (hb : Below w.heap.size w w') : Told w r (.returned (.tuple #[.agg (u8s L), .nilIface])) w' := by
  rw [h]; exact ⟨rfl, hb⟩

theorem results_two {P : Program} {fn : Func} {p q : Tmp} {ty : TypeId} (h : fn.results = #[.cell p ty, .tmp q]) (tmps : Array Value) (w : World) (g : Nat) (t : TypeId) (cs : Array Value) (d : TypeDesc) (v : Value)
    (hp : tmps.getD p undef = .pointer (some ⟨g, 0, none⟩)) (hq : tmps.getD q undef = v) (hg : Row w g cs t)
    (hu : P.underlying ty = some d) (hd : (match d with | .struct _ | .array _ _ => true | _ => false) = true) (hi : (P.info? ty).map (·.size) = some cs.size) :
    (results fn tmps).run P w = .ok (.tuple #[.agg cs, v]) w := by
  have hp' : tmps[p]?.getD undef = .pointer (some ⟨g, 0, none⟩) := by simpa using hp
  have hq' : tmps[q]?.getD undef = v := by simpa using hq
  simp [results, h, hp', hq', asAddr, run_loadVar_row w g t ty cs (0, 0) d hg hu hd hi]

theorem built24 : Tryd.prog.built 24 [] = some (u8s zero32) := by kernel_rfl
theorem build24 (w : World) : (Instr.build 24 #[]).run Tryd.prog w = .ok (.agg (u8s zero32)) w := run_build w 24 _ _ built24
theorem size5' : (Tryd.prog.info? 5).map (·.size) = some 1 := by kernel_rfl

theorem copy32 (w : World) (g b off c : Nat) (o : List UInt8) (ho : o.length = 32) (hg : Row w g (u8s zero32) 24) (hs : ∀ j v, (us o)[j]? = some v → w.cell? ((⟨b, off, none⟩ : Addr).add j) = some v) :
    ∃ w', (Builtin.copy_ #[22, 22] 3 #[.slice (some ⟨g, 0, none⟩) 32 32, .slice (some ⟨b, off, none⟩) 32 c]).run Tryd.prog w = .ok (.int .i64 32) w' ∧ Row w' g (u8s o) 24 ∧ w.grownBy w' (some g) := by
  have hl : (us o).length = 32 := by rw [us_length, ho]
  have h := run_copy_row (P := Tryd.prog) w 22 22 3 5 g 0 32 32 ⟨b, off, none⟩ 32 c (u8s zero32) 24 (us o) Tryd.underlying22 size5' hg (by rw [hl]; rfl) hs (by rw [hl, u8s_size]; decide) (one8 o)
  rw [hl] at h
  refine ⟨_, h, ?_, grown_setRow w g _⟩
  have e : ((u8s zero32).toList.take 0 ++ us o ++ (u8s zero32).toList.drop (0 + 32)).toArray = u8s o := by
    rw [List.drop_of_length_le (by simp [u8s, us, zero32])]
    simp [u8s]
  rw [← e]
  exact setRow_heap w g _ _ 24 _ hg

set_option maxHeartbeats 400000 in
theorem sumof_any (s : ByteArray) (w : World) (hs : s.size ≤ 8000) : Calls Tryd.prog 26 #[.string s] w (Told w (sumF s.data.toList)) := by
  have HS := Lib.hid hs
  clear hs
  go_enter Tryd.func26, Tryd.ntmps26
  go_upto_region 0 with fail
  go_step
  refine alloc_row rfl 24 rfl _ 32 info25 ?_
  intro w1 r1 g1 s1
  go_wp2_with (with_reducible refine halt_alloc 24 ?_)
  refine Lib.hid ?_
  refine alloc_row rfl 24 rfl _ 32 info25 ?_
  intro w2 r2 g2 s2
  have hb : Below w.heap.size w w2 := (below_make g1).grown g2 (by omega) (fun _ h => by cases h)
  have r1' := r1.grown g2 (by simp)
  have R1 := Lib.hid r1'
  have R2 := Lib.hid r2
  have HB := Lib.hid hb
  have S1 := Lib.hid s1
  have S2 := Lib.hid s2
  clear r1 g1 s1 r2 g2 s2 r1' hb
  go_wp2_with fail
  refine (unhex_any s w2 HS.out).mono ?_
  intro e w3 hg
  have kb := build24
  cases hu : unhexL s.data.toList with
  | none =>
    rw [hu] at hg
    obtain ⟨rfl, hb⟩ := hg
    have hz : sumF s.data.toList = none := by unfold sumF; rw [hu]
    have HZ := Lib.hid hz
    have HB3 := Lib.hid hb
    clear hb hz hu
    go_wp2_with (with_reducible refine halt_store 24 ?_)
    refine Lib.hid ?_
    have hr3 := R1.out.below HB3.out (by have := S1.out; have := S2.out; omega)
    have hb3 : Below w.heap.size w w3 := HB.out.trans (HB3.out.mono HB.out.size)
    refine store_row rfl 24 _ _ rfl w.heap.size (u8s zero32) ?x1 ?x2 24 _ hr3 32 size25 rfl ?x3 (u8s_one _) ?x4
    case x1 => rfl
    case x2 => rfl
    case x3 => exact u8s_size _
    case x4 =>
      intro w9 r9 g9 s9
      have HB9 := Lib.hid (hb3.grown g9 hb3.size (fun k h => by injection h with h; omega))
      have R9 := Lib.hid r9
      clear r9 g9 s9 hr3 hb3
      go_wp2_with fail
      refine bodyPost_ret (v := .tuple #[.agg (u8s zero32), .iface 37 (.int .i64 2)]) ?_ rfl (Told.mk_none HZ.out HB9.out)
      exact results_two rfl _ _ w.heap.size 24 (u8s zero32) _ _ rfl rfl R9.out Tryd.underlying24 rfl size25
  | some o =>
    rw [hu] at hg
    obtain ⟨v, rfl, hgr⟩ := hg
    obtain ⟨A, c, rfl⟩ := hgr.own.slice
    have HG := Lib.hid hgr
    have HB3 := Lib.hid hgr.below
    clear hgr
    by_cases h32 : o.length = 32
    · have hz : sumF s.data.toList = some o := by unfold sumF; rw [hu]; simp [h32]
      have HZ := Lib.hid hz
      have H32 := Lib.hid h32
      rw [h32]
      clear hz hu h32
      have hr2 := Lib.hid (R2.out.below HB3.out (by have := S2.out; omega))
      have hr1 := Lib.hid (R1.out.below HB3.out (by have := S1.out; have := S2.out; omega))
      obtain ⟨b, off, rfl, hcell⟩ : ∃ b off, A = some ⟨b, off, none⟩ ∧ ∀ j v, (us o)[j]? = some v → w3.cell? ((⟨b, off, none⟩ : Addr).add j) = some v := by
        obtain ⟨b, off, hA, _, hc⟩ := HG.out.own.rd.2.2 (by rw [H32.out]; decide)
        exact ⟨b, off, hA, fun j v hv => by rw [Go.WideShapes.add_plain]; exact hc j v hv⟩
      obtain ⟨w4, kcopy, r4, hb4⟩ := copy32 w3 w1.heap.size b off c o H32.out hr2.out hcell
      clear hcell
      go_wp2_with (with_reducible refine halt_load 24 ?_)
      refine Lib.hid ?_
      have hr1' := hr1.out.grown hb4 (by have := S1.out; simp; omega)
      have hb' : Below w.heap.size w w4 := (HB.out.trans (HB3.out.mono HB.out.size)).grown hb4 (by have := HB.out.size; have := HB3.out.size; omega) (fun k h => by injection h with h; have := S1.out; omega)
      have R4 := Lib.hid r4
      have HR1 := Lib.hid hr1'
      have HB4 := Lib.hid hb'
      have HSZ : RowKit.Hid ((u8s o).size = 32) := Lib.hid (by rw [u8s_size, H32.out])
      clear hb4 r4 hr1' hb' kcopy
      refine load_row rfl 24 _ rfl w1.heap.size rfl 24 (u8s o) _ R4.out Tryd.underlying24 rfl 32 size25 HSZ.out ?_
      intro _
      refine store_row rfl 24 _ _ rfl w.heap.size (u8s o) ?x1 ?x2 24 _ HR1.out 32 size25 HSZ.out ?x3 (u8s_one _) ?x4
      case x1 => rfl
      case x2 => rfl
      case x3 => exact u8s_size _
      case x4 =>
        intro w9 r9 g9 s9
        have HB9 := Lib.hid (HB4.out.grown g9 HB4.out.size (fun k h => by injection h with h; omega))
        have R9 := Lib.hid r9
        clear r9 g9 s9
        go_wp2_with fail
        refine bodyPost_ret (v := .tuple #[.agg (u8s o), .nilIface]) ?_ rfl (Told.mk_some HZ.out HB9.out)
        exact results_two rfl _ _ w.heap.size 24 (u8s o) _ _ rfl rfl R9.out Tryd.underlying24 rfl (by rw [size25, HSZ.out])
    · have hd : ((o.length : Int) != 32) = true := by simp; omega
      have hz : sumF s.data.toList = none := by unfold sumF; rw [hu]; simp [h32]
      have HZ := Lib.hid hz
      clear hz hu h32
      go_wp2_with (with_reducible refine halt_store 24 ?_)
      refine Lib.hid ?_
      have hr3 := R1.out.below HB3.out (by have := S1.out; have := S2.out; omega)
      have hb3 : Below w.heap.size w w3 := HB.out.trans (HB3.out.mono HB.out.size)
      refine store_row rfl 24 _ _ rfl w.heap.size (u8s zero32) ?x1 ?x2 24 _ hr3 32 size25 rfl ?x3 (u8s_one _) ?x4
      case x1 => rfl
      case x2 => rfl
      case x3 => exact u8s_size _
      case x4 =>
        intro w9 r9 g9 s9
        have HB9 := Lib.hid (hb3.grown g9 hb3.size (fun k h => by injection h with h; omega))
        have R9 := Lib.hid r9
        clear r9 g9 s9 hr3 hb3
        go_wp2_with fail
        refine bodyPost_ret (v := .tuple #[.agg (u8s zero32), .iface 37 (.int .i64 2)]) ?_ rfl (Told.mk_none HZ.out HB9.out)
        exact results_two rfl _ _ w.heap.size 24 (u8s zero32) _ _ rfl rfl R9.out Tryd.underlying24 rfl size25
end Go.Proofs.YtbklcelnnmhgkaaDoor
