/- The contract of the law GuardPlays. -/
import Derived.Test.YtmjpdncgapbfpaaProper
namespace Go.Proofs.Ytmjpdncgapbfpaa
open Go.RowKit

def Fine (x : Raw) : Prop := x.t.size ≤ 60 ∧ 0 ≤ x.c ∧ x.c ≤ 30

set_option maxHeartbeats 400000 in
theorem plays_long (A : Option Addr) (n c : Nat) (w : World) (h : 60 < n) : Calls Try.prog 3 #[.slice A n c] w fun e w' => e = .returned (.bool true) ∧ Below w.heap.size w w' := by
  go_enter Try.func3, Try.ntmps3
  go_wp2_with fail
  refine (alive_true _).mono ?_
  rintro e w1 ⟨rfl, hb⟩
  have HB := Lib.hid hb
  clear hb
  go_wp2_with fail
  go_ret
  exact ⟨rfl, HB.out⟩

theorem RdW.below {w w' : World} {B : Nat} {A : Option Addr} {n : Nat} {l : List Raw} (h : RdW w B A n l) (hb : ∀ p : Addr, p.block < B → w'.cell? p = w.cell? p) : RdW w' B A n l := by
  refine ⟨h.1, fun hn => ?_⟩
  obtain ⟨g, o, rfl, hg, hc⟩ := h.2 hn
  exact ⟨g, o, rfl, hg, fun i x hx => by rw [hb _ hg, hb _ hg, hb _ hg]; exact hc i x hx⟩
theorem RdW.next {w w' : World} {A : Option Addr} {n : Nat} {l : List Raw} (h : RdW w w.heap.size A n l) (hb : Below w.heap.size w w') : RdW w' w'.heap.size A n l := by
  have := h.below (w' := w') fun p hp => hb.cell hp
  refine ⟨this.1, fun hn => ?_⟩
  obtain ⟨g, o, e, hg, hc⟩ := this.2 hn
  exact ⟨g, o, e, Nat.lt_of_lt_of_le hg hb.size, hc⟩

theorem below_drewN {B : Nat} {a w : World} (h : Below B a w) (n : Nat) : Below B a (w.drewN n) := ⟨h.os, h.tape, h.output, h.size, h.block⟩

theorem ps_new {w : World} {A : Option Addr} {n : Nat} (c : Nat) {ops : List Sc} (h : RdO w w.heap.size A n ops) (hA : ∀ g o, A = some ⟨g, o, none⟩ → g < w.heap.size) :
    PS (w.alloc (.cells #[.slice A n c, .int .i64 0, .slice none 0 0] 30)) (w.heap.size + 1) w.heap.size A n c ops 0 (.slice none 0 0) [] := by
  refine ⟨by simp [go_sem], by simp [go_sem], by simp [go_sem], by simp [go_sem], by simp [go_sem], World.ownsRow_nil _ _ _ _, ?_, by omega, by simp, fun g o e => by have := hA g o e; omega⟩
  have := h.below (w' := w.alloc (.cells #[.slice A n c, .int .i64 0, .slice none 0 0] 30)) fun p hp => World.cell?_alloc_lt w _ p hp
  refine ⟨this.1, fun hn => ?_⟩
  obtain ⟨g, o, e, hg, hc⟩ := this.2 hn
  exact ⟨g, o, e, by omega, hc⟩

theorem runZ {f : Nat} (h : RunSaid f) {A : Option Addr} {n : Nat} (c : Nat) {ops : List Sc} {w : World} (hr : RdO w w.heap.size A n ops) (hn : n ≤ 60) (hk : Kinds ops) (hs : Small ops) (hf : ops.length ≤ f) :
    Calls Try.prog 11 #[.slice A n c, .int .i64 0] w (Ran ops n w (rn f ops)) := h A n c ops 0 w hr hn (Nat.zero_le _) hk hs hf

theorem tryZ {f : Nat} (h : PlaySaid f) {B p : Nat} {A : Option Addr} {n c : Nat} {ops : List Sc} {w : World} (hp : PS w B p A n c ops 0 (.slice none 0 0) []) (hn : n ≤ 60) (hk : Kinds ops) (hs : Small ops) (hf : ops.length ≤ f) (hl : ops.length ≤ 60) :
    Calls Try.prog 9 #[.func (.func 10) #[.pointer (some ⟨p, 0, none⟩)] #[]] w (TryPlayed B p A n c ops (.slice none 0 0) [] w (rn f ops)) := try_play h hp hn (Nat.zero_le _) hk hs hf (by simpa using hl)

set_option maxHeartbeats 4000000 in
set_option maxRecDepth 100000 in
theorem plays_any (A : Option Addr) (n c : Nat) (l : List Raw) (w : World) (hr : RdW w w.heap.size A n l) (hn : n ≤ 60) (hsz : ∀ x ∈ l, x.t.size ≤ 9223372036854775807) :
    Calls Try.prog 3 #[.slice A n c] w fun e w' => e = .returned (.bool true) ∧ Below w.heap.size w w' := by
  have HL := Lib.hid hr.1
  have HR := Lib.hid hr
  have HSZ := Lib.hid hsz
  clear hr hsz
  go_enter Try.func3, Try.ntmps3
  go_wp2_with fail
  refine (alive_true _).mono ?_
  rintro e w1 ⟨rfl, hb1⟩
  have HB1 := Lib.hid hb1
  clear hb1
  go_wp2_with fail
  refine (proper_any A n c l w1 (HR.out.next HB1.out) hn).mono ?_
  rintro e w2 ⟨v, rfl, hO, hb2⟩
  obtain ⟨Ao, co, rfl, hrd, hAo⟩ := hO.rd
  have hln : (l.map prop).length = n := by rw [List.length_map]; exact HL.out
  obtain ⟨ops, hops⟩ : ∃ ops, l.map prop = ops := ⟨_, rfl⟩
  rw [hops] at hrd hln hO
  rw [hln] at hrd
  rw [hops, hln]
  have HB2 := Lib.hid (HB1.out.trans (hb2.mono HB1.out.size))
  have HRD := Lib.hid hrd
  have HAO := Lib.hid (fun g o e => (hAo g o e).2)
  have HOPS := Lib.hid hops
  have HLN := Lib.hid hln
  clear hO hb2 hrd hAo hops hln
  go_wp2_with fail
  go_loopw [21] (fun ix wr => ∃ k : Nat, k ≤ n ∧ ix = .int .i64 k ∧ (∀ x ∈ l.take k, Fine x) ∧ Below w2.heap.size w2 wr) (fun ix _ => n - (intOf ix).toNat)
  case atStart => exact ⟨0, by omega, rfl, (fun x hx => by simp at hx), Below.refl _ _⟩
  case round =>
    obtain ⟨k, hk, rfl, hfine, hbr⟩ := hrel
    have HF := Lib.hid hfine
    have HBR := Lib.hid hbr
    clear hfine hbr
    by_cases hlt : k < n
    · obtain ⟨x, hx⟩ : ∃ x, l[k]? = some x := ⟨_, List.getElem?_eq_getElem (by rw [HL.out]; exact hlt)⟩
      have hxo : ops[k]? = some (prop x) := by rw [← HOPS.out, List.getElem?_map, hx]; rfl
      have hrd2 := HRD.out.below (w' := wr) fun p hp => HBR.out.cell hp
      obtain ⟨ob, off, rfl, hob, hc⟩ := hrd2.2 (by omega)
      obtain ⟨c0, c1, c2⟩ := hc k (prop x) hxo
      have c0' : wr.cell? ⟨ob, off + k * 3, none⟩ = some (.int .i64 (pk x.k : Int)) := c0
      have c1' : wr.cell? ⟨ob, off + k * 3 + 1, none⟩ = some (.int .i64 x.c) := c1
      have c2' : wr.cell? ⟨ob, off + k * 3 + 2, none⟩ = some (.string x.t) := c2
      have hxs := HSZ.out x (List.mem_of_getElem? hx)
      have HX := Lib.hid hx
      clear hx hxo hrd2 hc c0 c1 c2
      have d0 : decide ((k : Int) < (n : Int)) = true := by simp; omega
      have hbx : Below w2.heap.size w2 (wr.alloc (.cells #[.int .i64 (pk x.k : Int), .int .i64 x.c, .string x.t] 26)) := HBR.out.alloc HBR.out.size _
      have HBX := Lib.hid hbx
      have HBW := Lib.hid (HB2.out.trans (hbx.mono HB2.out.size))
      clear hbx
      by_cases g1 : 60 < x.t.size
      · have t1 : decide ((60 : Int) < (x.t.size : Int)) = true := by simp; omega
        go_wp2_with fail
        go_ret
        exact ⟨rfl, HBW.out⟩
      have t1 : decide ((60 : Int) < (x.t.size : Int)) = false := by simp; omega
      by_cases g2 : x.c < 0
      · have t2 : decide (x.c < 0) = true := by simp; omega
        go_wp2_with fail
        go_ret
        exact ⟨rfl, HBW.out⟩
      have t2 : decide (x.c < 0) = false := by simp; omega
      by_cases g3 : 30 < x.c
      · have t3 : decide (30 < x.c) = true := by simp; omega
        go_wp2_with fail
        go_ret
        exact ⟨rfl, HBW.out⟩
      have t3 : decide (30 < x.c) = false := by simp; omega
      go_wp2_with fail
      go_roundw
      case rel =>
        refine ⟨k + 1, by omega, by go_num, ?_, HBX.out⟩
        have ht : l.take (k + 1) = l.take k ++ [x] := by
          obtain ⟨hk', rfl⟩ := List.getElem?_eq_some_iff.1 HX.out
          exact List.take_succ_eq_append_getElem hk'
        rw [ht]
        intro y hy
        rcases List.mem_append.1 hy with h | h
        · exact HF.out y h
        · rw [List.mem_singleton] at h
          subst h
          exact ⟨by omega, by omega, by omega⟩
      case measure => simp [intOf]; omega
    · have d0 : decide ((k : Int) < (n : Int)) = false := by simp; omega
      have ht : l.take k = l := List.take_of_length_le (by rw [HL.out]; omega)
      rw [ht] at HF
      have hkinds : Kinds ops := by
        rw [← HOPS.out]; intro o ho
        obtain ⟨y, _, rfl⟩ := List.mem_map.1 ho
        exact pk_lt _
      have hsmall : Small ops := by
        rw [← HOPS.out]; intro o ho
        obtain ⟨y, hy, rfl⟩ := List.mem_map.1 ho
        exact (HF.out y hy).1
      have HKI := Lib.hid hkinds
      have HSM := Lib.hid hsmall
      clear ht hkinds hsmall
      have hz : w2.heap.size ≤ wr.heap.size := HBR.out.size
      have hps := ps_new co (HRD.out.next HBR.out) (fun g o e => by have := HAO.out g o e; omega)
      have HBP := Lib.hid ((HB2.out.trans (HBR.out.mono HB2.out.size)).alloc (o := .cells #[.slice Ao n co, .int .i64 0, .slice none 0 0] 30) (by have := HB2.out.size; omega))
      have hPw : w.heap.size ≤ wr.heap.size := by have := HB2.out.size; omega
      have hmf : ∀ (fn : Fn) (first cap : Array Value) (w : World), (Instr.makeFunc fn first cap).run Try.prog w = .ok (.func fn first cap) w := fun _ _ _ _ => rfl
      go_wp2_with fail
      refine (tryZ (play_all 60) hps hn HKI.out HSM.out (by rw [HLN.out]; exact hn) (by rw [HLN.out]; exact hn)).mono ?_
      rintro e w3 ⟨i3, nv3, hi3, hP3, hF3, hM3, hO3⟩
      have hB3 : Below w.heap.size w w3 := by
        refine ⟨hF3.os.trans HBP.out.os, hF3.tape.trans HBP.out.tape, hF3.output.trans HBP.out.output, Nat.le_trans HBP.out.size hF3.size, fun q hq => ?_⟩
        exact (hF3.block q (Nat.lt_of_lt_of_le hq HBP.out.size) (by omega) (by simp [Value.ownBlock])).trans (HBP.out.block q hq)
      rw [List.nil_append] at hP3
      obtain ⟨An, cn, rfl⟩ := hP3.own.slice
      have hR3 : RdO w3 w3.heap.size Ao n ops := by
        refine ⟨hP3.rd.1, fun h0 => ?_⟩
        obtain ⟨g, o, e, hg, hc⟩ := hP3.rd.2 h0
        exact ⟨g, o, e, Nat.lt_of_lt_of_le hg hP3.hB, hc⟩
      have HP3 := Lib.hid hP3
      have HB3 := Lib.hid hB3
      have HR3 := Lib.hid hR3
      clear hps hP3 hF3 hM3 hB3 hR3
      generalize wr.heap.size = P at HP3 hO3 hPw ⊢
      cases hY : (rn 60 ops).2.2 with
      | none =>
        rw [hY] at hO3
        obtain ⟨rfl, _⟩ := hO3
        go_wp2_with fail
        refine (runZ (run_all 60) co HR3.out hn HKI.out HSM.out (by rw [HLN.out]; exact hn)).mono ?_
        rintro e w4 ⟨nv2, jj, rfl, hjj, hdd, hown4, hb4⟩
        rw [hY, fltA]
        obtain ⟨A2, c2, rfl⟩ := hown4.slice
        have hP4 := HP3.out.later hb4
        have HB4 := Lib.hid (HB3.out.trans (hb4.mono HB3.out.size))
        go_upto_region 15 with (fail)
        have hb5 : Below w4.heap.size w4 (w4.alloc (.cells #[.int .i64 0, .string ⟨#[]⟩, .bool false] 35)) := (Below.refl _ _).alloc (Nat.le_refl _) _
        have f0 : (w4.alloc (.cells #[.int .i64 0, .string ⟨#[]⟩, .bool false] 35)).cell? ⟨w4.heap.size, 0, none⟩ = some (.int .i64 0) := by simp [go_sem]
        have f1 : (w4.alloc (.cells #[.int .i64 0, .string ⟨#[]⟩, .bool false] 35)).cell? ⟨w4.heap.size, 1, none⟩ = some (.string ⟨#[]⟩) := by simp [go_sem]
        have f2 : (w4.alloc (.cells #[.int .i64 0, .string ⟨#[]⟩, .bool false] 35)).cell? ⟨w4.heap.size, 2, none⟩ = some (.bool false) := by simp [go_sem]
        have hP5 := hP4.later hb5
        have hO5 := OwnN.later hown4 hb5
        have HB5 := Lib.hid (HB4.out.trans (hb5.mono HB4.out.size))
        generalize w4.alloc (.cells #[.int .i64 0, .string ⟨#[]⟩, .bool false] 35) = w5 at hb5 f0 f1 f2 hP5 hO5 HB5 ⊢
        generalize w4.heap.size = F at hb5 f0 f1 f2 ⊢
        have p2 := hP5.cN
        have hlt5 : ∀ q, (w5.alloc (.cells #[.int .i64 0, .string ⟨#[]⟩, .bool false] 35)).drew.cell? ⟨F, q, none⟩ = w5.cell? ⟨F, q, none⟩ := fun q => World.cell?_alloc_lt w5 _ ⟨F, q, none⟩ (World.block_lt_of_cell? w5 ⟨F, 0, none⟩ f0)
        have f0' := (hlt5 0).trans f0
        have f1' := (hlt5 1).trans f1
        have f2' := (hlt5 2).trans f2
        have p2' : (w5.alloc (.cells #[.int .i64 0, .string ⟨#[]⟩, .bool false] 35)).drew.cell? ⟨P, 2, none⟩ = some (.slice An (rn 60 ops).1.length cn) := (World.cell?_alloc_lt w5 _ ⟨P, 2, none⟩ (World.block_lt_of_cell? w5 ⟨P, 2, none⟩ p2)).trans p2
        have hb6 : Below w5.heap.size w5 (w5.alloc (.cells #[.int .i64 0, .string ⟨#[]⟩, .bool false] 35)).drew := ((Below.refl _ _).alloc (Nat.le_refl _) _).drew
        have hP6 := hP5.later hb6
        have hO6 := OwnN.later hO5 hb6
        have HB6 := Lib.hid (HB5.out.trans (hb6.mono HB5.out.size))
        have HP6 := Lib.hid hP6
        have HO6 := Lib.hid hO6
        clear hb4 hb5 hb6 hP4 hP5 hO5 hown4 hP6 hO6 hY hlt5
        go_region_held3 (fun w' => w'.cell? ⟨F, 0, none⟩ = some (.int .i64 0) ∧ w'.cell? ⟨F, 1, none⟩ = some (.string ⟨#[]⟩) ∧ w'.cell? ⟨F, 2, none⟩ = some (.bool false) ∧ w'.cell? ⟨P, 2, none⟩ = some (.slice An (rn 60 ops).1.length cn)) (first | exact ⟨f0, f1, f2, p2⟩ | exact ⟨f0', f1', f2', p2'⟩) (first | (go_at_call 12; refine (fault_nilE w5).mono ?_; rintro e w' ⟨rfl, rfl⟩))
        go_wp2_with fail
        clear f0' f1' f2' p2' f0 f1 f2 p2
        generalize (w5.alloc (.cells #[.int .i64 0, .string ⟨#[]⟩, .bool false] 35)).drew = w6 at HP6 HO6 HB6 ⊢
        obtain ⟨NL, hNL⟩ : ∃ L, (rn 60 ops).1 = L := ⟨_, rfl⟩
        rw [hNL] at HP6 HO6
        rw [hNL]
        have hNl : NL.length ≤ 60 := by
          have := (rn_size 60 ops HKI.out HSM.out (by rw [HLN.out]; exact hn)).2
          rw [hNL] at this
          have := HLN.out
          omega
        clear hNL
        have q0 := HP6.out.cN
        go_loopw [68] (fun ix wr => ∃ k q : Nat, k ≤ NL.length ∧ ix = .int .i64 k ∧ wr = w6.drewN q) (fun ix _ => NL.length - (intOf ix).toNat)
        case atStart => exact ⟨0, 0, by omega, rfl, rfl⟩
        case round =>
          obtain ⟨k, q, hk, rfl, rfl⟩ := hrel
          by_cases hlt : k < NL.length
          · obtain ⟨x, hx⟩ : ∃ x, NL[k]? = some x := ⟨_, List.getElem?_eq_getElem hlt⟩
            obtain ⟨ga, ca, ea, _, ha⟩ := HP6.out.own.at_ hx
            obtain ⟨gb, cb, eb, _, hb⟩ := OwnN.at_ HO6.out hx
            injection ea with ea1 ea2 ea3
            injection eb with eb1 eb2 eb3
            subst ea1 eb1 ea3 eb3
            have m0 := ha 0 _ rfl
            have m1 := ha 1 _ rfl
            have m2 := ha 2 _ rfl
            have m3 := ha 3 _ rfl
            have m4 := ha 4 _ rfl
            have n0 := hb 0 _ rfl
            have n1 := hb 1 _ rfl
            have n2 := hb 2 _ rfl
            have n3 := hb 3 _ rfl
            have n4 := hb 4 _ rfl
            rw [Nat.add_zero] at m0 n0
            clear ha hb hx ea2 eb2
            have d0 : decide (k < NL.length) = true := by simp; omega
            go_wp2_with fail
            go_quiet (fail)
            go_wp2_with fail
            go_roundw
            case rel => exact ⟨k + 1, _, by omega, by go_num, rfl⟩
            case measure => simp [intOf]; omega
          · go_wp2_with fail
            go_ret
            exact ⟨rfl, below_drewN HB6.out _⟩
      | some y =>
        rw [hY] at hO3
        obtain ⟨b, rfl, hb1, hb2, hb3, hc1, hc2⟩ := hO3
        go_wp2_with fail
        refine (runZ (run_all 60) co HR3.out hn HKI.out HSM.out (by rw [HLN.out]; exact hn)).mono ?_
        rintro e w4 ⟨nv2, jj, rfl, hjj, hdd, hown4, hb4⟩
        rw [hY, fltA]
        obtain ⟨A2, c2, rfl⟩ := hown4.slice
        have hP4 := HP3.out.later hb4
        have HB4 := Lib.hid (HB3.out.trans (hb4.mono HB3.out.size))
        have hz4 : b < w4.heap.size := Nat.lt_of_lt_of_le hb2 hb4.size
        have hcc1 := (hb4.cell (p := ⟨b, 0, none⟩) hb2).trans hc1
        have hcc2 := (hb4.cell (p := ⟨b, 1, none⟩) hb2).trans hc2
        go_upto_region 15 with (fail)
        have hb5 : Below w4.heap.size w4 (w4.alloc (.cells #[.int .i64 y.1, .string y.2, .bool true] 35)) := (Below.refl _ _).alloc (Nat.le_refl _) _
        have f0 : (w4.alloc (.cells #[.int .i64 y.1, .string y.2, .bool true] 35)).cell? ⟨w4.heap.size, 0, none⟩ = some (.int .i64 y.1) := by simp [go_sem]
        have f1 : (w4.alloc (.cells #[.int .i64 y.1, .string y.2, .bool true] 35)).cell? ⟨w4.heap.size, 1, none⟩ = some (.string y.2) := by simp [go_sem]
        have f2 : (w4.alloc (.cells #[.int .i64 y.1, .string y.2, .bool true] 35)).cell? ⟨w4.heap.size, 2, none⟩ = some (.bool true) := by simp [go_sem]
        have hP5 := hP4.later hb5
        have hO5 := OwnN.later hown4 hb5
        have HB5 := Lib.hid (HB4.out.trans (hb5.mono HB4.out.size))
        have hz5 : b < (w4.alloc (.cells #[.int .i64 y.1, .string y.2, .bool true] 35)).heap.size := by simp; omega
        have hd1 := (hb5.cell (p := ⟨b, 0, none⟩) hz4).trans hcc1
        have hd2 := (hb5.cell (p := ⟨b, 1, none⟩) hz4).trans hcc2
        generalize w4.alloc (.cells #[.int .i64 y.1, .string y.2, .bool true] 35) = w5 at hb5 f0 f1 f2 hP5 hO5 HB5 hz5 hd1 hd2 ⊢
        generalize w4.heap.size = F at hb5 f0 f1 f2 ⊢
        have p2 := hP5.cN
        have hlt5 : ∀ q, (w5.alloc (.cells #[.int .i64 y.1, .string y.2, .bool true] 35)).drew.cell? ⟨F, q, none⟩ = w5.cell? ⟨F, q, none⟩ := fun q => World.cell?_alloc_lt w5 _ ⟨F, q, none⟩ (World.block_lt_of_cell? w5 ⟨F, 0, none⟩ f0)
        have f0' := (hlt5 0).trans f0
        have f1' := (hlt5 1).trans f1
        have f2' := (hlt5 2).trans f2
        have p2' : (w5.alloc (.cells #[.int .i64 y.1, .string y.2, .bool true] 35)).drew.cell? ⟨P, 2, none⟩ = some (.slice An (rn 60 ops).1.length cn) := (World.cell?_alloc_lt w5 _ ⟨P, 2, none⟩ (World.block_lt_of_cell? w5 ⟨P, 2, none⟩ p2)).trans p2
        have hb6 : Below w5.heap.size w5 (w5.alloc (.cells #[.int .i64 y.1, .string y.2, .bool true] 35)).drew := ((Below.refl _ _).alloc (Nat.le_refl _) _).drew
        have hP6 := hP5.later hb6
        have hO6 := OwnN.later hO5 hb6
        have HB6 := Lib.hid (HB5.out.trans (hb6.mono HB5.out.size))
        have HP6 := Lib.hid hP6
        have HO6 := Lib.hid hO6
        clear hb4 hb5 hb6 hP4 hP5 hO5 hown4 hP6 hO6 hY hlt5
        go_region_held3 (fun w' => w'.cell? ⟨F, 0, none⟩ = some (.int .i64 y.1) ∧ w'.cell? ⟨F, 1, none⟩ = some (.string y.2) ∧ w'.cell? ⟨F, 2, none⟩ = some (.bool true) ∧ w'.cell? ⟨P, 2, none⟩ = some (.slice An (rn 60 ops).1.length cn)) (first | exact ⟨f0, f1, f2, p2⟩ | exact ⟨f0', f1', f2', p2'⟩) (first | (go_at_call 12; refine (fault_someE hz5 hd1 hd2).mono ?_; rintro e w' ⟨rfl, rfl⟩))
        go_wp2_with fail
        clear f0' f1' f2' p2' f0 f1 f2 p2
        generalize (w5.alloc (.cells #[.int .i64 y.1, .string y.2, .bool true] 35)).drew = w6 at HP6 HO6 HB6 ⊢
        obtain ⟨NL, hNL⟩ : ∃ L, (rn 60 ops).1 = L := ⟨_, rfl⟩
        rw [hNL] at HP6 HO6
        rw [hNL]
        have hNl : NL.length ≤ 60 := by
          have := (rn_size 60 ops HKI.out HSM.out (by rw [HLN.out]; exact hn)).2
          rw [hNL] at this
          have := HLN.out
          omega
        clear hNL
        have q0 := HP6.out.cN
        go_loopw [68] (fun ix wr => ∃ k q : Nat, k ≤ NL.length ∧ ix = .int .i64 k ∧ wr = w6.drewN q) (fun ix _ => NL.length - (intOf ix).toNat)
        case atStart => exact ⟨0, 0, by omega, rfl, rfl⟩
        case round =>
          obtain ⟨k, q, hk, rfl, rfl⟩ := hrel
          by_cases hlt : k < NL.length
          · obtain ⟨x, hx⟩ : ∃ x, NL[k]? = some x := ⟨_, List.getElem?_eq_getElem hlt⟩
            obtain ⟨ga, ca, ea, _, ha⟩ := HP6.out.own.at_ hx
            obtain ⟨gb, cb, eb, _, hb⟩ := OwnN.at_ HO6.out hx
            injection ea with ea1 ea2 ea3
            injection eb with eb1 eb2 eb3
            subst ea1 eb1 ea3 eb3
            have m0 := ha 0 _ rfl
            have m1 := ha 1 _ rfl
            have m2 := ha 2 _ rfl
            have m3 := ha 3 _ rfl
            have m4 := ha 4 _ rfl
            have n0 := hb 0 _ rfl
            have n1 := hb 1 _ rfl
            have n2 := hb 2 _ rfl
            have n3 := hb 3 _ rfl
            have n4 := hb 4 _ rfl
            rw [Nat.add_zero] at m0 n0
            clear ha hb hx ea2 eb2
            have d0 : decide (k < NL.length) = true := by simp; omega
            go_wp2_with fail
            go_quiet (fail)
            go_wp2_with fail
            go_roundw
            case rel => exact ⟨k + 1, _, by omega, by go_num, rfl⟩
            case measure => simp [intOf]; omega
          · go_wp2_with fail
            go_ret
            exact ⟨rfl, below_drewN HB6.out _⟩
end Go.Proofs.Ytmjpdncgapbfpaa
