/- Contract of utf8.AppendRune. -/
import Derived.Test.YtanmkddmebhdpaaDoorSml
import Derived.Test.YtanmkddmebhdpaaDoorUtq
namespace Go.Proofs.YtanmkddmebhdpaaDoor
set_option maxRecDepth 20000
open Go.RowKit Go.Lib

theorem nb_int (x : Nat) (z : Int) (h : x < 256) (hz : z = (x : Int)) : z = ((nb x).toNat : Int) := by rw [nb_toNat h, hz]
set_option maxHeartbeats 1000000 in
theorem apprune1 (A : Option Addr) (n k B c : Nat) (l : List UInt8) (w : World) (ho : Own w B (.slice A n k) l) (hB : B ≤ w.heap.size) (hl : l.length ≤ 900000) (h : c < 128) :
    Calls Tryd.prog 26 #[.slice A n k, .int .i32 (c : Int)] w fun e w' => ∃ v', e = .returned v' ∧ Own w' B v' (l ++ encB c) ∧ w.grownBy w' (Value.slice A n k).ownBlock := by
  obtain ⟨u0, h0, e0⟩ : ∃ u : UInt8, nb (c) = u ∧ (c : Int) = (u.toNat : Int) := ⟨_, rfl, nb_int _ _ (by omega) (by omega)⟩
  have HF : RowKit.Hid (encB c = [u0]) := Lib.hid (by unfold encB; rw [if_pos (by omega), h0])
  have HO := Lib.hid (And.intro ho hl)
  clear ho hl h0
  go_enter Tryd.func26, Tryd.ntmps26
  go_wp2_with (at_builtin; refine push8 w rfl (.tmp 8) (.tmp 11) rfl B (.slice A n k) l [u0] _ 1 rfl rfl HO.out.1 rfl rfl hB (by have := HO.out.2; omega) ?_)
  intro v' w' h1 h2 _
  have HR := Lib.hid (And.intro h1 h2)
  clear h1 h2
  go_wp2_with fail
  go_ret
  exact ⟨v', rfl, by rw [HF.out]; exact HR.out.1, HR.out.2⟩
set_option maxHeartbeats 1000000 in
theorem apprune2 (A : Option Addr) (n k B c : Nat) (l : List UInt8) (w : World) (ho : Own w B (.slice A n k) l) (hB : B ≤ w.heap.size) (hl : l.length ≤ 900000) (h : 128 ≤ c) (h2 : c < 2048) :
    Calls Tryd.prog 35 #[.slice A n k, .int .i32 (c : Int)] w fun e w' => ∃ v', e = .returned v' ∧ Own w' B v' (l ++ encB c) ∧ w.grownBy w' (Value.slice A n k).ownBlock := by
  obtain ⟨u0, h0, e0⟩ : ∃ u : UInt8, nb (192 + c / 64) = u ∧ 192 + (c : Int) / 64 = (u.toNat : Int) := ⟨_, rfl, nb_int _ _ (by omega) (by omega)⟩
  obtain ⟨u1, h1, e1⟩ : ∃ u : UInt8, nb (128 + c % 64) = u ∧ 128 + (c : Int) % 64 = (u.toNat : Int) := ⟨_, rfl, nb_int _ _ (by omega) (by omega)⟩
  have HF : RowKit.Hid (encB c = [u0, u1]) := Lib.hid (by unfold encB; rw [if_neg (by omega), if_pos (by omega), h0, h1])
  have e32 : (c : Int) % 4294967296 = (c : Int) := by omega
  have d1 : decide ((c : Int) ≤ 2047) = true := decide_eq_true (by omega)
  have HO := Lib.hid (And.intro ho hl)
  clear ho hl h0 h1
  go_enter Tryd.func35, Tryd.ntmps35
  go_wp2_with (at_builtin; refine push8 w rfl (.tmp 14) (.tmp 23) rfl B (.slice A n k) l [u0, u1] _ 2 rfl rfl HO.out.1 rfl rfl hB (by have := HO.out.2; omega) ?_)
  intro v' w' h1 h2 _
  have HR := Lib.hid (And.intro h1 h2)
  clear h1 h2
  go_wp2_with fail
  go_ret
  exact ⟨v', rfl, by rw [HF.out]; exact HR.out.1, HR.out.2⟩
set_option maxHeartbeats 1000000 in
theorem apprune3 (A : Option Addr) (n k B c : Nat) (l : List UInt8) (w : World) (ho : Own w B (.slice A n k) l) (hB : B ≤ w.heap.size) (hl : l.length ≤ 900000) (h : 2048 ≤ c) (h2 : c < 55296) :
    Calls Tryd.prog 35 #[.slice A n k, .int .i32 (c : Int)] w fun e w' => ∃ v', e = .returned v' ∧ Own w' B v' (l ++ encB c) ∧ w.grownBy w' (Value.slice A n k).ownBlock := by
  obtain ⟨u0, h0, e0⟩ : ∃ u : UInt8, nb (224 + c / 4096) = u ∧ 224 + (c : Int) / 4096 = (u.toNat : Int) := ⟨_, rfl, nb_int _ _ (by omega) (by omega)⟩
  obtain ⟨u1, h1, e1⟩ : ∃ u : UInt8, nb (128 + c / 64 % 64) = u ∧ 128 + (c : Int) / 64 % 64 = (u.toNat : Int) := ⟨_, rfl, nb_int _ _ (by omega) (by omega)⟩
  obtain ⟨u2, h2, e2⟩ : ∃ u : UInt8, nb (128 + c % 64) = u ∧ 128 + (c : Int) % 64 = (u.toNat : Int) := ⟨_, rfl, nb_int _ _ (by omega) (by omega)⟩
  have HF : RowKit.Hid (encB c = [u0, u1, u2]) := Lib.hid (by unfold encB; rw [if_neg (by omega), if_neg (by omega), if_pos (by omega), h0, h1, h2])
  have e32 : (c : Int) % 4294967296 = (c : Int) := by omega
  have d1 : decide ((c : Int) ≤ 2047) = false := decide_eq_false (by omega)
  have d2 : decide ((c : Int) < 55296) = true := decide_eq_true (by omega)
  have HO := Lib.hid (And.intro ho hl)
  clear ho hl h0 h1 h2
  go_enter Tryd.func35, Tryd.ntmps35
  go_wp2_with (at_builtin; refine push8 w rfl (.tmp 34) (.tmp 48) rfl B (.slice A n k) l [u0, u1, u2] _ 3 rfl rfl HO.out.1 rfl rfl hB (by have := HO.out.2; omega) ?_)
  intro v' w' h1 h2 _
  have HR := Lib.hid (And.intro h1 h2)
  clear h1 h2
  go_wp2_with fail
  go_ret
  exact ⟨v', rfl, by rw [HF.out]; exact HR.out.1, HR.out.2⟩
set_option maxHeartbeats 1000000 in
theorem apprune3b (A : Option Addr) (n k B c : Nat) (l : List UInt8) (w : World) (ho : Own w B (.slice A n k) l) (hB : B ≤ w.heap.size) (hl : l.length ≤ 900000) (h : 57344 ≤ c) (h2 : c < 65536) :
    Calls Tryd.prog 35 #[.slice A n k, .int .i32 (c : Int)] w fun e w' => ∃ v', e = .returned v' ∧ Own w' B v' (l ++ encB c) ∧ w.grownBy w' (Value.slice A n k).ownBlock := by
  obtain ⟨u0, h0, e0⟩ : ∃ u : UInt8, nb (224 + c / 4096) = u ∧ 224 + (c : Int) / 4096 = (u.toNat : Int) := ⟨_, rfl, nb_int _ _ (by omega) (by omega)⟩
  obtain ⟨u1, h1, e1⟩ : ∃ u : UInt8, nb (128 + c / 64 % 64) = u ∧ 128 + (c : Int) / 64 % 64 = (u.toNat : Int) := ⟨_, rfl, nb_int _ _ (by omega) (by omega)⟩
  obtain ⟨u2, h2, e2⟩ : ∃ u : UInt8, nb (128 + c % 64) = u ∧ 128 + (c : Int) % 64 = (u.toNat : Int) := ⟨_, rfl, nb_int _ _ (by omega) (by omega)⟩
  have HF : RowKit.Hid (encB c = [u0, u1, u2]) := Lib.hid (by unfold encB; rw [if_neg (by omega), if_neg (by omega), if_pos (by omega), h0, h1, h2])
  have e32 : (c : Int) % 4294967296 = (c : Int) := by omega
  have d1 : decide ((c : Int) ≤ 2047) = false := decide_eq_false (by omega)
  have d2 : decide ((c : Int) < 55296) = false := decide_eq_false (by omega)
  have d3 : decide (57343 < (c : Int)) = true := decide_eq_true (by omega)
  have d4 : decide ((c : Int) ≤ 65535) = true := decide_eq_true (by omega)
  have HO := Lib.hid (And.intro ho hl)
  clear ho hl h0 h1 h2
  go_enter Tryd.func35, Tryd.ntmps35
  go_wp2_with (at_builtin; refine push8 w rfl (.tmp 34) (.tmp 48) rfl B (.slice A n k) l [u0, u1, u2] _ 3 rfl rfl HO.out.1 rfl rfl hB (by have := HO.out.2; omega) ?_)
  intro v' w' h1 h2 _
  have HR := Lib.hid (And.intro h1 h2)
  clear h1 h2
  go_wp2_with fail
  go_ret
  exact ⟨v', rfl, by rw [HF.out]; exact HR.out.1, HR.out.2⟩
set_option maxHeartbeats 1000000 in
theorem apprune4 (A : Option Addr) (n k B c : Nat) (l : List UInt8) (w : World) (ho : Own w B (.slice A n k) l) (hB : B ≤ w.heap.size) (hl : l.length ≤ 900000) (h : 65536 ≤ c) (h2 : c ≤ 1114111) :
    Calls Tryd.prog 35 #[.slice A n k, .int .i32 (c : Int)] w fun e w' => ∃ v', e = .returned v' ∧ Own w' B v' (l ++ encB c) ∧ w.grownBy w' (Value.slice A n k).ownBlock := by
  obtain ⟨u0, h0, e0⟩ : ∃ u : UInt8, nb (240 + c / 262144) = u ∧ 240 + (c : Int) / 262144 = (u.toNat : Int) := ⟨_, rfl, nb_int _ _ (by omega) (by omega)⟩
  obtain ⟨u1, h1, e1⟩ : ∃ u : UInt8, nb (128 + c / 4096 % 64) = u ∧ 128 + (c : Int) / 4096 % 64 = (u.toNat : Int) := ⟨_, rfl, nb_int _ _ (by omega) (by omega)⟩
  obtain ⟨u2, h2, e2⟩ : ∃ u : UInt8, nb (128 + c / 64 % 64) = u ∧ 128 + (c : Int) / 64 % 64 = (u.toNat : Int) := ⟨_, rfl, nb_int _ _ (by omega) (by omega)⟩
  obtain ⟨u3, h3, e3⟩ : ∃ u : UInt8, nb (128 + c % 64) = u ∧ 128 + (c : Int) % 64 = (u.toNat : Int) := ⟨_, rfl, nb_int _ _ (by omega) (by omega)⟩
  have HF : RowKit.Hid (encB c = [u0, u1, u2, u3]) := Lib.hid (by unfold encB; rw [if_neg (by omega), if_neg (by omega), if_neg (by omega), h0, h1, h2, h3])
  have e32 : (c : Int) % 4294967296 = (c : Int) := by omega
  have d1 : decide ((c : Int) ≤ 2047) = false := decide_eq_false (by omega)
  have d2 : decide ((c : Int) < 55296) = false := decide_eq_false (by omega)
  have d3 : decide (57343 < (c : Int)) = true := decide_eq_true (by omega)
  have d4 : decide ((c : Int) ≤ 65535) = false := decide_eq_false (by omega)
  have d5 : decide (65535 < (c : Int)) = true := decide_eq_true (by omega)
  have d6 : decide ((c : Int) ≤ 1114111) = true := decide_eq_true (by omega)
  have HO := Lib.hid (And.intro ho hl)
  clear ho hl h0 h1 h2 h3
  go_enter Tryd.func35, Tryd.ntmps35
  go_wp2_with (at_builtin; refine push8 w rfl (.tmp 57) (.tmp 76) rfl B (.slice A n k) l [u0, u1, u2, u3] _ 4 rfl rfl HO.out.1 rfl rfl hB (by have := HO.out.2; omega) ?_)
  intro v' w' h1 h2 _
  have HR := Lib.hid (And.intro h1 h2)
  clear h1 h2
  go_wp2_with fail
  go_ret
  exact ⟨v', rfl, by rw [HF.out]; exact HR.out.1, HR.out.2⟩
theorem appruneN (A : Option Addr) (n k B c : Nat) (l : List UInt8) (w : World) (ho : Own w B (.slice A n k) l) (hB : B ≤ w.heap.size) (hl : l.length ≤ 900000) (h : 128 ≤ c) (hc : okc c) :
    Calls Tryd.prog 35 #[.slice A n k, .int .i32 (c : Int)] w fun e w' => ∃ v', e = .returned v' ∧ Own w' B v' (l ++ encB c) ∧ w.grownBy w' (Value.slice A n k).ownBlock := by
  unfold okc at hc
  by_cases h2 : c < 2048
  · exact apprune2 A n k B c l w ho hB hl h h2
  · by_cases h3 : c < 55296
    · exact apprune3 A n k B c l w ho hB hl (by omega) h3
    · by_cases h4 : c < 65536
      · exact apprune3b A n k B c l w ho hB hl (by omega) h4
      · exact apprune4 A n k B c l w ho hB hl (by omega) (by omega)
set_option maxHeartbeats 1000000 in
theorem apprune (A : Option Addr) (n k B c : Nat) (l : List UInt8) (w : World) (ho : Own w B (.slice A n k) l) (hB : B ≤ w.heap.size) (hl : l.length ≤ 900000) (hc : okc c) :
    Calls Tryd.prog 26 #[.slice A n k, .int .i32 (c : Int)] w fun e w' => ∃ v', e = .returned v' ∧ Own w' B v' (l ++ encB c) ∧ w.grownBy w' (Value.slice A n k).ownBlock := by
  by_cases h : c < 128
  · exact apprune1 A n k B c l w ho hB hl h
  · have HN := Lib.hid (appruneN A n k B c l w ho hB hl (by omega) hc)
    have hc2 : c ≤ 1114111 := by unfold okc at hc; omega
    have e32 : (c : Int) % 4294967296 = (c : Int) := by omega
    have d1 : decide ((c : Int) ≤ 127) = false := decide_eq_false (by omega)
    clear ho hl hc hc2
    go_enter Tryd.func26, Tryd.ntmps26
    go_wp2_with fail
    refine HN.out.mono ?_
    rintro e w1 ⟨v', rfl, h1, h2⟩
    have HR := Lib.hid (And.intro h1 h2)
    clear h1 h2
    go_wp2_with fail
    go_ret
    exact ⟨v', rfl, HR.out.1, HR.out.2⟩
end Go.Proofs.YtanmkddmebhdpaaDoor
