/- Contract of escape. -/
import Derived.Test.YtanmkddmebhdpaaDoorUtw
namespace Go.Proofs.YtanmkddmebhdpaaDoor
set_option maxRecDepth 20000
open Go.RowKit Go.Lib

def lettersB : ByteArray := ⟨#[34, 92, 98, 102, 110, 114, 116]⟩
theorem let_idx (u : UInt8) : Lib.indexByte lettersB.data.toList u = if lettersL.idxOf u.toNat < 7 then (lettersL.idxOf u.toNat : Int) else -1 := by
  have key : ∀ x : Fin 256, Lib.indexByte lettersB.data.toList (nb x.val) = if lettersL.idxOf (nb x.val).toNat < 7 then (lettersL.idxOf (nb x.val).toNat : Int) else -1 := by decide +kernel
  have := key ⟨u.toNat, u.toNat_lt⟩
  rwa [nb_of] at this
set_option maxHeartbeats 4000000 in
theorem escape_any (s : ByteArray) (a : UInt8) (l : List UInt8) (w : World) (h : s.data.toList = a :: l) :
    Calls Tryd.prog 25 #[.string s] w (XR w (escF l) fun p => .tuple #[.int .i32 (p.1 : Int), .int .i64 (p.2 : Int)]) := by
  have hsz0 : s.size = l.length + 1 := by rw [Lib.size_eq, h]; rfl
  obtain ⟨m, hm⟩ : ∃ m, l.length + 1 = m := ⟨_, rfl⟩
  have hsz : s.size = m := hsz0.trans hm
  have kx := fun j u hj w => idx_at s (a :: l) h j u hj w
  have M10 := Lib.hid (fun w => must_ok 10 ⟨#[]⟩ w)
  have N10 := Lib.hid (fun w => must_no 10 ⟨#[]⟩ w)
  have M2 := Lib.hid (fun w => must_ok 2 ⟨#[]⟩ w)
  have N2 := Lib.hid (fun w => must_no 2 ⟨#[]⟩ w)
  have HS := Lib.hid h
  clear h hsz0
  match l with
  | [] =>
    rw [show escF [] = .error 10 from rfl]
    rw [List.length_nil] at hm
    have d1 : decide (1 < m) = false := decide_eq_false (by omega)
    have g1 : decide ((1 : Int) < (m : Int)) = false := decide_eq_false (by omega)
    clear kx hm
    go_enter Tryd.func25, Tryd.ntmps25
    go_wp2_with fail
    refine (N10.out _).mono ?_
    rintro e w2 ⟨q, rfl, hq⟩
    exact ⟨rfl, .inl ⟨10, rfl, q, rfl, hq⟩⟩
  | u :: l1 =>
    rw [List.length_cons] at hm
    have d1 : decide (1 < m) = true := decide_eq_true (by omega)
    have g1 : decide ((1 : Int) < (m : Int)) = true := decide_eq_true (by omega)
    have k1 : ∀ w, (Instr.index 9 (.string s) (.int .i64 1)).run Tryd.prog w = .ok (.int .u8 (u.toNat : Int)) w := kx 1 u rfl
    have HN := Lib.hid (fun w => numbered_any s a u l1 w HS.out)
    rw [escF_cons]
    by_cases hu : u = 117
    · subst hu
      rw [if_pos rfl]
      rw [show (((117 : UInt8).toNat : Nat) : Int) = 117 from rfl] at k1
      cases hx : numberedF l1 with
      | error k =>
        rw [hx] at HN
        clear kx hm hx
        go_enter Tryd.func25, Tryd.ntmps25
        go_wp2_with fail
        refine (M10.out _).mono ?_
        rintro e wz ⟨rfl, rfl⟩
        go_wp2_with fail
        refine (HN.out _).mono ?_
        rintro e w2 (⟨k2, hk2, q, rfl, hq⟩ | ⟨x, hx, _⟩)
        · injection hk2 with hk2
          subst hk2
          exact ⟨rfl, .inl ⟨k, rfl, q, rfl, hq⟩⟩
        · cases hx
      | ok p =>
        rw [hx] at HN
        clear kx hm hx
        obtain ⟨p1, p2⟩ := p
        go_enter Tryd.func25, Tryd.ntmps25
        go_wp2_with fail
        refine (M10.out _).mono ?_
        rintro e wz ⟨rfl, rfl⟩
        go_wp2_with fail
        refine (HN.out _).mono ?_
        rintro e w2 (⟨k2, hk2, _⟩ | ⟨x, hx, rfl, rfl⟩)
        · cases hk2
        injection hx with hx
        subst hx
        go_wp2_with fail
        go_ret2
        exact .inr ⟨_, rfl, rfl, rfl⟩
    · rw [if_neg hu]
      have hz : ((u.toNat : Int) == 117) = false := by
        rw [beq_eq_false_iff_ne]
        intro e
        exact hu (UInt8.toNat_inj.1 (by show u.toNat = 117; omega))
      by_cases hu2 : u = 47
      · subst hu2
        rw [if_pos rfl]
        rw [show (((47 : UInt8).toNat : Nat) : Int) = 47 from rfl] at k1 hz
        clear kx hm hu
        go_enter Tryd.func25, Tryd.ntmps25
        go_wp2_with fail
        refine (M10.out _).mono ?_
        rintro e wz ⟨rfl, rfl⟩
        go_wp2_with fail
        go_ret2
        exact .inr ⟨_, rfl, rfl, rfl⟩
      · rw [if_neg hu2]
        have hz2 : ((u.toNat : Int) == 47) = false := by
          rw [beq_eq_false_iff_ne]
          intro e
          exact hu2 (UInt8.toNat_inj.1 (by show u.toNat = 47; omega))
        have HI := Lib.hid (fun w => ixb lettersB (u.toNat : Int) w)
        rw [show ((u.toNat : Int).toNat.toUInt8) = u by simp [Nat.toUInt8], let_idx, show lettersB = ⟨#[34, 92, 98, 102, 110, 114, 116]⟩ from rfl] at HI
        by_cases hi : lettersL.idxOf u.toNat < 7
        · rw [if_pos hi]
          rw [if_pos hi] at HI
          obtain ⟨i, hi2⟩ : ∃ i, lettersL.idxOf u.toNat = i := ⟨_, rfl⟩
          rw [hi2] at HI hi
          rw [hi2]
          obtain ⟨c, hc⟩ : ∃ c : UInt8, nb (signsL.getD i 0) = c := ⟨_, rfl⟩
          have hcn : signsL.getD i 0 = c.toNat := by
            rw [← hc]
            have key : ∀ i : Fin 7, signsL.getD i.val 0 = (nb (signsL.getD i.val 0)).toNat := by decide +kernel
            exact key ⟨i, hi⟩
          rw [hcn]
          have ky : ∀ w, (Instr.index 9 (.string ⟨#[34, 92, 8, 12, 10, 13, 9]⟩) (.int .i64 (i : Int))).run Tryd.prog w = .ok (.int .u8 (c.toNat : Int)) w := fun w => by
            refine idx_at ⟨#[34, 92, 8, 12, 10, 13, 9]⟩ [34, 92, 8, 12, 10, 13, 9] rfl i c ?_ w
            rw [← hc]
            have key : ∀ i : Fin 7, ([34, 92, 8, 12, 10, 13, 9] : List UInt8)[i.val]? = some (nb (signsL.getD i.val 0)) := by decide +kernel
            exact key ⟨i, hi⟩
          have d2 : decide ((0 : Int) ≤ (i : Int)) = true := decide_eq_true (by omega)
          clear kx hm hu hu2 hi hi2 hc hcn
          go_enter Tryd.func25, Tryd.ntmps25
          go_wp2_with fail
          refine (M10.out _).mono ?_
          rintro e wz ⟨rfl, rfl⟩
          go_wp2_with fail
          refine (HI.out _).mono ?_
          rintro e wz ⟨rfl, rfl⟩
          go_wp2_with fail
          refine (M2.out _).mono ?_
          rintro e wz ⟨rfl, rfl⟩
          go_wp2_with fail
          go_ret2
          refine .inr ⟨_, rfl, ?_, rfl⟩
          show Ending.returned (.tuple #[.int .i32 (wrap32 (c.toNat : Int)), .int .i64 2]) = _
          rw [wrap32_in _ (by omega) (by have := c.toNat_lt; omega)]
          rfl
        · rw [if_neg hi]
          rw [if_neg hi] at HI
          clear kx hm hu hu2 hi
          go_enter Tryd.func25, Tryd.ntmps25
          go_wp2_with fail
          refine (M10.out _).mono ?_
          rintro e wz ⟨rfl, rfl⟩
          go_wp2_with fail
          refine (HI.out _).mono ?_
          rintro e wz ⟨rfl, rfl⟩
          go_wp2_with fail
          refine (N2.out _).mono ?_
          rintro e w2 ⟨q, rfl, hq⟩
          exact ⟨rfl, .inl ⟨2, rfl, q, rfl, hq⟩⟩
end Go.Proofs.YtanmkddmebhdpaaDoor
