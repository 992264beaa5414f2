/- Contract of the law DeflateTokens. -/
import Derived.Test.YtnadnokjhinmcaaRtt
import Derived.Laws.StructEq
namespace Go.Proofs.Ytnadnokjhinmcaa
open Go.RowKit

theorem und31 : Try.prog.underlying 31 = some (.struct (Try.prog.fieldsOf 31)) := by kernel_rfl
theorem held31 : Try.prog.stoodInHeld 31 = false := by kernel_rfl
theorem neq_tok (a : Tk) (w : World) : (binOp .neq 31 (.agg (tokW a)) (.agg (tokW a))).run Try.prog w = .ok (.bool false) w := by
  obtain ⟨b, x, y⟩ := a
  rw [run_neq_struct, run_equalIn_struct w 9999 31 _ _ und31 held31]
  have h : ∀ z x y : Int, (z == z) = true → (x == x) = true → (y == y) = true → (Op.eqFields 9999 #[.int .u8 z, .int .i64 x, .int .i64 y] #[.int .u8 z, .int .i64 x, .int .i64 y] (Try.prog.fieldsOf 31).toList).run Try.prog w = .ok true w := by
    intro z x y h1 h2 h3
    have hf : (Try.prog.fieldsOf 31).toList.map (fun f => (f.name == "_", f.type, f.offset)) = [(false, 5, 0), (false, 3, 1), (false, 3, 2)] := by kernel_rfl
    generalize (Try.prog.fieldsOf 31).toList = fl at hf ⊢
    rcases fl with _ | ⟨f0, _ | ⟨f1, _ | ⟨f2, _ | ⟨f3, r⟩⟩⟩⟩
    · simp at hf
    · simp at hf
    · simp at hf
    · simp only [List.map_cons, List.map_nil, List.cons.injEq, Prod.mk.injEq, and_true] at hf
      obtain ⟨⟨n0, t0, o0⟩, ⟨n1, t1, o1⟩, n2, t2, o2⟩ := hf
      have e0 : f0.name ≠ "_" := by intro e; rw [e] at n0; cases n0
      have e1 : f1.name ≠ "_" := by intro e; rw [e] at n1; cases n1
      have e2 : f2.name ≠ "_" := by intro e; rw [e] at n2; cases n2
      have p0 : (part 5 #[.int .u8 z, .int .i64 x, .int .i64 y] 0).run Try.prog w = .ok (.int .u8 z) w := by kernel_rfl
      have p1 : (part 3 #[.int .u8 z, .int .i64 x, .int .i64 y] 1).run Try.prog w = .ok (.int .i64 x) w := by kernel_rfl
      have p2 : (part 3 #[.int .u8 z, .int .i64 x, .int .i64 y] 2).run Try.prog w = .ok (.int .i64 y) w := by kernel_rfl
      simp only [Op.eqFields, if_pos e0, if_pos e1, if_pos e2, t0, t1, t2, o0, o1, o2, Sem.run_bind, p0, p1, p2, Result.andThen_ok, run_equalIn_int w 9998 5 .u8 .u8 z z Try.underlying5, run_equalIn_int w 9998 3 .i64 .i64 x x Try.underlying3, run_equalIn_int w 9998 3 .i64 .i64 y y Try.underlying3, h1, h2, h3, Bool.not_true, Bool.false_eq_true, if_false, Sem.run_pure]
    · simp at hf
  rw [h _ _ _ (beq_self_eq_true _) (beq_self_eq_true _) (beq_self_eq_true _)]
  rfl

theorem toksF_length (l : List UInt8) : ∀ F q, (toksF l F q).length ≤ F
  | 0, _ => Nat.le_refl _
  | F + 1, q => by
    unfold toksF
    split
    · have := toksF_length l F (q + stepT l q); simp; omega
    · simp
set_option maxHeartbeats 4000000 in
set_option maxRecDepth 10000 in
theorem tol_any (A : Option Addr) (n c : Nat) (l : List UInt8) (w : World) (hr : Rd w w.heap.size A n (us l)) (hA : A = none → c = 0) :
    Calls Try.prog 3 #[.slice A n c] w fun e w' => e = .returned (.bool true) ∧ Below w.heap.size w w' := by
  have HR := Lib.hid hr
  have HA := Lib.hid hA
  have HL : RowKit.Hid (l.length = n) := Lib.hid (by have := hr.1; rwa [us_length] at this)
  clear hr hA
  go_enter Try.func3, Try.ntmps3
  go_wp2_with fail
  refine (alive_true w).mono ?_
  rintro e w1 ⟨rfl, hb1⟩
  have HB1 := Lib.hid hb1
  have HR1 := Lib.hid (HR.out.next hb1)
  clear hb1 HR
  by_cases hn : 1500 < n
  · have d1 : decide (1500 < (n : Int)) = true := decide_eq_true (by omega)
    go_wp2_with fail
    go_ret
    exact ⟨rfl, HB1.out⟩
  · have d1 : decide (1500 < (n : Int)) = false := decide_eq_false (by omega)
    have HO := Lib.hid (Own.lit w1 #[] [] 0 rfl rfl (by decide))
    have HRA : RowKit.Hid (Rd (w1.alloc (.cells #[] 5)) w1.heap.size A n (us l)) := Lib.hid (HR1.out.below ((Below.refl _ _).alloc (Nat.le_refl _) _))
    have HBA : RowKit.Hid (w1.heap.size ≤ (w1.alloc (.cells #[] 5)).heap.size) := Lib.hid (by simp)
    go_wp2_with (at_builtin; refine cat8 (w1.alloc (.cells #[] 5)) rfl _ _ rfl w1.heap.size w1.heap.size (.slice (some ⟨w1.heap.size, 0, none⟩) 0 0) [] l A n c rfl rfl HO.out HRA.out HA.out HBA.out (by simp; omega) ?_)
    intro v2 w2 ho2 hg2 _
    obtain ⟨A2, c2, rfl⟩ := ho2.slice
    have hb2 : Below w1.heap.size w1 w2 := ((Below.refl _ _).alloc (Nat.le_refl _) _).grown hg2 (by simp) (fun k hk => by have h0 : w1.heap.size = k := Option.some.inj hk; omega)
    have HR2 := Lib.hid (HR1.out.next hb2)
    have HO2 := Lib.hid (ho2.rd.2)
    have HB2 := Lib.hid (HB1.out.trans (hb2.mono HB1.out.size))
    rw [HL.out] at HO2 ⊢
    clear ho2 hg2 hb2 HO HRA HBA HB1 HR1
    go_wp2_with fail
    refine (tokens_any A2 n c2 l w2 HO2.out (by omega)).mono ?_
    rintro e w3 ⟨v3, rfl, ho3, hb3⟩
    obtain ⟨A3, c3, rfl, _, hr3⟩ := ho3.rd
    have HB3 := Lib.hid (HB2.out.trans (hb3.mono HB2.out.size))
    have HO3 := Lib.hid (HO2.out.next hb3)
    have HR3 := Lib.hid (HR2.out.next hb3)
    have HT3 := Lib.hid hr3
    obtain ⟨m, hm⟩ : ∃ m, (toksT l).length = m := ⟨_, rfl⟩
    have hm0 : m ≤ n := by rw [← hm, ← HL.out]; exact toksF_length _ _ _
    have HM := Lib.hid hm
    rw [hm] at HT3 ⊢
    clear ho3 hb3 hr3 hm HO2 HR2 HB2
    go_wp2_with fail
    refine (document_any A3 m c3 (toksT l) w3 HT3.out (by omega)).mono ?_
    rintro e w4 ⟨v4, rfl, ho4, hb4⟩
    obtain ⟨A4, c4, rfl, _, hr4⟩ := ho4.rd
    have HB4 := Lib.hid (HB3.out.trans (hb4.mono HB3.out.size))
    have HO4 := Lib.hid (HO3.out.next hb4)
    have HR4 := Lib.hid (HR3.out.next hb4)
    have HT4 := Lib.hid hr4
    rw [HM.out] at HT4 ⊢
    clear ho4 hb4 hr4 HO3 HR3 HB3 HT3
    go_wp2_with fail
    refine (rtokens_any A n c l w4 HR4.out (by omega)).mono ?_
    rintro e w5 ⟨v5, rfl, ho5, hb5⟩
    obtain ⟨A5, c5, rfl, _, hr5⟩ := ho5.rd
    have HB5 := Lib.hid (HB4.out.trans (hb5.mono HB4.out.size))
    have HO5 := Lib.hid (HO4.out.next hb5)
    have HR5 := Lib.hid (HR4.out.next hb5)
    have HT4 := Lib.hid ((HT4.out.below hb5).more hb5.size)
    have HT5 := Lib.hid hr5
    rw [HM.out] at HT5 ⊢
    have e1 : ((m : Int) != (m : Int)) = false := by simp
    clear ho5 hb5 hr5 HO4 HR4 HB4
    go_wp2_with fail
    refine (bytes_same A2 A n c2 c l w5 HO5.out HR5.out).mono ?_
    rintro e wz ⟨rfl, rfl⟩
    go_wp2_with fail
    go_loopw [33] (fun i wr => ∃ k s : Nat, k ≤ m ∧ i = .int .i64 (k : Int) ∧ wr = wz.drewN s) (fun i _ => m - (intOf i).toNat)
    case atStart => exact ⟨0, 0, Nat.zero_le _, rfl, rfl⟩
    case round =>
      obtain ⟨k, s, hk, rfl, hwr⟩ := hrel
      have HW := Lib.hid hwr
      by_cases hlt : k < m
      · have d2 : decide ((k : Int) < (m : Int)) = true := decide_eq_true (by omega)
        obtain ⟨g, o, a, rfl, hg, ha, c0, c1, c2x⟩ := HT4.out.cells hlt
        obtain ⟨g', o', a', rfl, hg', ha', k0, k1, k2⟩ := HT5.out.cells hlt
        obtain rfl : a = a' := by rw [ha] at ha'; injection ha'
        have x0 : wr.cell? ⟨g, o + k * 3, none⟩ = some (.int .u8 (a.b.toNat : Int)) := by rw [hwr]; exact c0
        have x1 : wr.cell? ⟨g, o + k * 3 + 1, none⟩ = some (.int .i64 a.l) := by rw [hwr]; exact c1
        have x2 : wr.cell? ⟨g, o + k * 3 + 2, none⟩ = some (.int .i64 a.d) := by rw [hwr]; exact c2x
        have y0 : wr.cell? ⟨g', o' + k * 3, none⟩ = some (.int .u8 (a.b.toNat : Int)) := by rw [hwr]; exact k0
        have y1 : wr.cell? ⟨g', o' + k * 3 + 1, none⟩ = some (.int .i64 a.l) := by rw [hwr]; exact k1
        have y2 : wr.cell? ⟨g', o' + k * 3 + 2, none⟩ = some (.int .i64 a.d) := by rw [hwr]; exact k2
        have hne := neq_tok a
        clear c0 c1 c2x k0 k1 k2 hwr ha ha' hg hg'
        go_wp2_with fail
        go_quiet (fail)
        have HW2 : RowKit.Hid (wr.drewN nq = wz.drewN (s + nq)) := Lib.hid (by rw [HW.out]; exact drewN_two wz s nq)
        generalize wr.drewN nq = w6 at HW2 ⊢
        clear HW x0 x1 x2 y0 y1 y2
        go_wp2_with fail
        go_roundw
        case rel => exact ⟨k + 1, s + nq, by omega, by simp, HW2.out⟩
        case measure => simp [intOf]; omega
      · obtain rfl : k = m := by omega
        have d2 : decide ((k : Int) < (k : Int)) = false := decide_eq_false (by omega)
        have HB6 : RowKit.Hid (Below w.heap.size w wr) := Lib.hid (by rw [hwr]; exact HB5.out.trans ((below_make (grown_drewN wz s)).mono HB5.out.size))
        clear hwr
        go_wp2_with fail
        go_ret
        exact ⟨rfl, HB6.out⟩
end Go.Proofs.Ytnadnokjhinmcaa
