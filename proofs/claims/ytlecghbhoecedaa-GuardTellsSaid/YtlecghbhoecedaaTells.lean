/- Any fault's text, code and place: the contract of the law GuardTells. -/
import Derived.Test.YtlecghbhoecedaaAlive
import Derived.Deep.QuietTactic
import Derived.BigQuiet
import Derived.Deep.RegionWith
namespace Go.Proofs.Ytlecghbhoecedaa
open Go.RowKit

/-- The codes' words. -/
def word (c : Int) : ByteArray :=
  if c == 1 then ⟨#[114, 97, 110, 103, 101]⟩ else if c == 2 then ⟨#[102, 111, 114, 109]⟩ else if c == 3 then ⟨#[108, 111, 110, 103]⟩ else if c == 4 then ⟨#[110, 111, 110, 101]⟩
  else if c == 5 then ⟨#[102, 117, 108, 108]⟩ else if c == 6 then ⟨#[115, 117, 109]⟩ else if c == 7 then ⟨#[100, 101, 112, 116, 104]⟩ else if c == 8 then ⟨#[116, 119, 105, 99, 101]⟩
  else if c == 9 then ⟨#[116, 101, 120, 116]⟩ else if c == 10 then ⟨#[101, 110, 100]⟩ else if c == 11 then ⟨#[107, 105, 110, 100]⟩ else if c == 12 then ⟨#[115, 105, 122, 101]⟩
  else if c == 13 then ⟨#[112, 97, 116, 104]⟩ else if c == 14 then ⟨#[109, 97, 110, 121]⟩ else if c == 15 then ⟨#[115, 116, 101, 112, 115]⟩ else if c == 16 then ⟨#[109, 101, 100, 105, 97]⟩
  else ⟨#[117, 110, 107, 110, 111, 119, 110]⟩

set_option maxHeartbeats 2000000 in
theorem errno_any (c : Int) (w : World) : Calls Try.prog 34 #[.int .i64 c] w fun e w' => e = .returned (.string (word c)) ∧ w = w' := by
  go_enter Try.func34, Try.ntmps34
  go_wp2
  all_goals
    go_ret
    exact ⟨by unfold word; simp [*], rfl⟩

theorem errno_q (c : Int) (w : World) : Calls Try.prog 34 #[.int .i64 c] w fun e w' => e = .returned (.string (word c)) ∧ w' = w := (errno_any c w).mono fun _ _ ⟨a, b⟩ => ⟨a, b.symm⟩

theorem word_out (c : Int) (h : c < 1 ∨ 17 ≤ c) : word c = ⟨#[117, 110, 107, 110, 111, 119, 110]⟩ := by
  unfold word
  repeat (rw [if_neg (by simp; omega)])

theorem word_at (c : Int) (h : 1 ≤ c ∧ c < 17) (hl : c.toNat < ([.string ⟨#[117, 110, 107, 110, 111, 119, 110]⟩, .string ⟨#[114, 97, 110, 103, 101]⟩, .string ⟨#[102, 111, 114, 109]⟩, .string ⟨#[108, 111, 110, 103]⟩, .string ⟨#[110, 111, 110, 101]⟩, .string ⟨#[102, 117, 108, 108]⟩, .string ⟨#[115, 117, 109]⟩, .string ⟨#[100, 101, 112, 116, 104]⟩, .string ⟨#[116, 119, 105, 99, 101]⟩, .string ⟨#[116, 101, 120, 116]⟩, .string ⟨#[101, 110, 100]⟩, .string ⟨#[107, 105, 110, 100]⟩, .string ⟨#[115, 105, 122, 101]⟩, .string ⟨#[112, 97, 116, 104]⟩, .string ⟨#[109, 97, 110, 121]⟩, .string ⟨#[115, 116, 101, 112, 115]⟩, .string ⟨#[109, 101, 100, 105, 97]⟩] : List Value).length) : ([.string ⟨#[117, 110, 107, 110, 111, 119, 110]⟩, .string ⟨#[114, 97, 110, 103, 101]⟩, .string ⟨#[102, 111, 114, 109]⟩, .string ⟨#[108, 111, 110, 103]⟩, .string ⟨#[110, 111, 110, 101]⟩, .string ⟨#[102, 117, 108, 108]⟩, .string ⟨#[115, 117, 109]⟩, .string ⟨#[100, 101, 112, 116, 104]⟩, .string ⟨#[116, 119, 105, 99, 101]⟩, .string ⟨#[116, 101, 120, 116]⟩, .string ⟨#[101, 110, 100]⟩, .string ⟨#[107, 105, 110, 100]⟩, .string ⟨#[115, 105, 122, 101]⟩, .string ⟨#[112, 97, 116, 104]⟩, .string ⟨#[109, 97, 110, 121]⟩, .string ⟨#[115, 116, 101, 112, 115]⟩, .string ⟨#[109, 101, 100, 105, 97]⟩] : List Value)[c.toNat] = .string (word c) := by
  have hc : c = 1 ∨ c = 2 ∨ c = 3 ∨ c = 4 ∨ c = 5 ∨ c = 6 ∨ c = 7 ∨ c = 8 ∨ c = 9 ∨ c = 10 ∨ c = 11 ∨ c = 12 ∨ c = 13 ∨ c = 14 ∨ c = 15 ∨ c = 16 := by omega
  rcases hc with rfl | rfl | rfl | rfl | rfl | rfl | rfl | rfl | rfl | rfl | rfl | rfl | rfl | rfl | rfl | rfl <;> rfl

theorem word_size (c : Int) : (word c).size ≤ 7 := by
  by_cases h : 1 ≤ c ∧ c < 17
  · have hc : c = 1 ∨ c = 2 ∨ c = 3 ∨ c = 4 ∨ c = 5 ∨ c = 6 ∨ c = 7 ∨ c = 8 ∨ c = 9 ∨ c = 10 ∨ c = 11 ∨ c = 12 ∨ c = 13 ∨ c = 14 ∨ c = 15 ∨ c = 16 := by omega
    rcases hc with rfl | rfl | rfl | rfl | rfl | rfl | rfl | rfl | rfl | rfl | rfl | rfl | rfl | rfl | rfl | rfl <;> decide
  · rw [word_out c (by omega)]; decide

set_option maxHeartbeats 2000000 in
theorem word_any (c : Int) (w : World) : Calls Try.prog 35 #[.int .i64 c] w fun e w' => e = .returned (.string (word c)) ∧ Below w.heap.size w w' := by
  go_enter Try.func35, Try.ntmps35
  go_wp2
  · go_ret
    exact ⟨by rw [word_out c (by assumption)]; rfl, (Below.refl _ _).alloc (Nat.le_refl _) _⟩
  · go_ret
    exact ⟨congrArg Ending.returned (word_at c (by assumption) _), (Below.refl _ _).alloc (Nat.le_refl _) _⟩
  · go_ret
    exact ⟨by rw [word_out c (.inl (by assumption))]; rfl, (Below.refl _ _).alloc (Nat.le_refl _) _⟩

def txt (c : Int) (s : ByteArray) : ByteArray := if s.toList.isEmpty then word c else word c ++ ⟨#[58, 32]⟩ ++ s

set_option maxHeartbeats 1000000 in
theorem error_none (w : World) : Calls Try.prog 13 #[.pointer none] w fun e w' => e = .returned (.string ⟨#[]⟩) ∧ w = w' := by
  go_enter Try.func13, Try.ntmps13
  go_wp2_with fail
  go_ret
  exact ⟨rfl, rfl⟩

set_option maxHeartbeats 1000000 in
theorem error_empty (b o : Nat) (c : Int) (s : ByteArray) (w : World) (h1 : w.cell? ⟨b, o, none⟩ = some (.int .i64 c)) (h2 : w.cell? ⟨b, o + 1, none⟩ = some (.string s)) (hs : s.toList.isEmpty = true) :
    Calls Try.prog 13 #[.pointer (some ⟨b, o, none⟩)] w fun e w' => e = .returned (.string (word c)) ∧ Below w.heap.size w w' := by
  go_enter Try.func13, Try.ntmps13
  go_wp2_with fail
  refine (errno_any c w).mono ?_
  rintro e w' ⟨rfl, rfl⟩
  go_wp2_with fail
  go_ret
  exact ⟨rfl, Below.refl _ _⟩

set_option maxHeartbeats 1000000 in
theorem error_some (b o : Nat) (c : Int) (s : ByteArray) (w : World) (h1 : w.cell? ⟨b, o, none⟩ = some (.int .i64 c)) (h2 : w.cell? ⟨b, o + 1, none⟩ = some (.string s)) (hs : s.toList.isEmpty = false) (hz : s.size ≤ 1000000) :
    Calls Try.prog 13 #[.pointer (some ⟨b, o, none⟩)] w fun e w' => e = .returned (.string (word c ++ ⟨#[58, 32]⟩ ++ s)) ∧ Below w.heap.size w w' := by
  have hw := word_size c
  go_enter Try.func13, Try.ntmps13
  go_wp2_with fail
  go_quiet ((go_at_call 34; exact Calls.quiet_of_same (errno_q _ _)))
  go_wp2_with fail
  go_ret
  exact ⟨rfl, below_drewN (Below.refl _ _) _⟩

set_option maxHeartbeats 1000000 in
theorem text_empty (c : Int) (s : ByteArray) (t : Bool) (w : World) (hs : s.toList.isEmpty = true) :
    Calls Try.prog 14 #[.agg #[.int .i64 c, .string s, .bool t]] w fun e w' => e = .returned (.string (word c)) ∧ Below w.heap.size w w' := by
  go_enter Try.func14, Try.ntmps14
  go_wp2_with fail
  refine (word_any c _).mono ?_
  rintro e w' ⟨rfl, hb⟩
  have HB := Lib.hid hb
  clear hb
  go_wp2_with fail
  go_ret
  exact ⟨rfl, ((Below.refl _ _).alloc (Nat.le_refl _) _).trans (HB.out.mono (by simp))⟩

set_option maxHeartbeats 1000000 in
theorem text_some (c : Int) (s : ByteArray) (t : Bool) (w : World) (hs : s.toList.isEmpty = false) (hz : s.size ≤ 1000000) :
    Calls Try.prog 14 #[.agg #[.int .i64 c, .string s, .bool t]] w fun e w' => e = .returned (.string (word c ++ ⟨#[58, 32]⟩ ++ s)) ∧ Below w.heap.size w w' := by
  have hw := word_size c
  go_enter Try.func14, Try.ntmps14
  go_wp2_with fail
  go_region_with (go_at_call 35; refine (word_any _ _).mono ?_; rintro e w' ⟨rfl, hb⟩; have hc2 := hb.cell (p := ⟨w.heap.size, 1, none⟩) (by simp); have HB := Lib.hid hb; clear hb)
  all_goals
    go_wp2_with fail
    go_ret
    exact ⟨rfl, (((Below.refl _ _).alloc (Nat.le_refl _) _).drew).trans (HB.out.mono (by simp))⟩

theorem error_any (b o : Nat) (c : Int) (s : ByteArray) (w : World) (h1 : w.cell? ⟨b, o, none⟩ = some (.int .i64 c)) (h2 : w.cell? ⟨b, o + 1, none⟩ = some (.string s)) (hz : s.size ≤ 1000000) :
    Calls Try.prog 13 #[.pointer (some ⟨b, o, none⟩)] w fun e w' => e = .returned (.string (txt c s)) ∧ Below w.heap.size w w' := by
  unfold txt
  cases hs : s.toList.isEmpty
  · exact error_some b o c s w h1 h2 hs hz
  · exact error_empty b o c s w h1 h2 hs

theorem text_any (c : Int) (s : ByteArray) (t : Bool) (w : World) (hz : s.size ≤ 1000000) :
    Calls Try.prog 14 #[.agg #[.int .i64 c, .string s, .bool t]] w fun e w' => e = .returned (.string (txt c s)) ∧ Below w.heap.size w w' := by
  unfold txt
  cases hs : s.toList.isEmpty
  · exact text_some c s t w hs hz
  · exact text_empty c s t w hs

set_option maxHeartbeats 1000000 in
theorem catch_nil (w : World) : Calls Try.prog 30 #[.nilFunc] w fun e w' => e = .returned (.tuple #[.pointer none, .bool false]) ∧ Below w.heap.size w w' := by
  have hnf : ∀ (w : World), (binOp BinOp.eql 1 .nilFunc .nilFunc).run Try.prog w = .ok (.bool true) w := fun _ => by kernel_rfl
  go_enter_defers Try.func30, Try.ntmps30
  go_wp2_with fail
  exact ⟨.tuple #[.pointer none, .bool false], by simp [results, Try.results30, go_sem], rfl, below_pre2 w⟩

set_option maxHeartbeats 1000000 in
theorem try_nil (w : World) : Calls Try.prog 9 #[.nilFunc] w fun e w' => e = .returned .nilIface ∧ Below w.heap.size w w' := by
  go_enter Try.func9, Try.ntmps9
  go_wp2_with fail
  refine (catch_nil w).mono ?_
  rintro e w' ⟨rfl, hb⟩
  have HB := Lib.hid hb
  clear hb
  go_wp2_with fail
  go_ret
  exact ⟨rfl, HB.out⟩

set_option maxHeartbeats 1000000 in
theorem tells_long (c : Int) (s : ByteArray) (w : World) (h : (100 : Int) < (s.size : Int)) :
    Calls Try.prog 4 #[.int .i64 c, .string s] w fun e w' => e = .returned (.bool true) ∧ Below w.heap.size w w' := by
  go_enter Try.func4, Try.ntmps4
  go_wp2_with fail
  refine (alive_true _).mono ?_
  rintro e w1 ⟨rfl, hbl⟩
  have HB := Lib.hid hbl
  clear hbl
  go_wp2_with fail
  go_ret
  exact ⟨rfl, HB.out⟩

set_option maxHeartbeats 2000000 in
theorem tells_any (c : Int) (s : ByteArray) (w : World) (h : (s.size : Int) ≤ 100) :
    Calls Try.prog 4 #[.int .i64 c, .string s] w fun e w' => e = .returned (.bool true) ∧ Below w.heap.size w w' := by
  have hcc : (c == c) = true := by simp
  have hcn : (c != c) = false := by simp
  go_enter Try.func4, Try.ntmps4
  go_wp2_with fail
  refine (alive_true _).mono ?_
  rintro e w1 ⟨rfl, hbl⟩
  have HB := Lib.hid hbl
  clear hbl
  go_wp2_with fail
  have hbz := (Below.refl w1.heap.size w1).alloc (Nat.le_refl _) (.cells #[.int .i64 c, .string s] 45)
  have k1 : (w1.alloc (.cells #[.int .i64 c, .string s] 45)).cell? ⟨w1.heap.size, 0, none⟩ = some (.int .i64 c) := by simp [go_sem]
  have k2 : (w1.alloc (.cells #[.int .i64 c, .string s] 45)).cell? ⟨w1.heap.size, 1, none⟩ = some (.string s) := by simp [go_sem]
  have hz : w1.heap.size < (w1.alloc (.cells #[.int .i64 c, .string s] 45)).heap.size := by simp
  have HBZ := Lib.hid (HB.out.trans (hbz.mono HB.out.size))
  clear hbz HB
  generalize w1.alloc (.cells #[.int .i64 c, .string s] 45) = w2 at k1 k2 hz HBZ ⊢
  generalize w1.heap.size = b at k1 k2 hz HBZ ⊢
  refine (error_any b 0 c s w2 k1 k2 (by omega)).mono ?_
  rintro e w3 ⟨rfl, hb3⟩
  rw [← hb3.cell hz] at k1 k2
  have hz3 := Nat.lt_of_lt_of_le hz hb3.size
  have HB3 := Lib.hid (HBZ.out.trans (hb3.mono HBZ.out.size))
  clear hb3 hz HBZ
  go_wp2_with fail
  refine (text_any c s false w3 (by omega)).mono ?_
  rintro e w4 ⟨rfl, hb4⟩
  rw [← hb4.cell hz3] at k1 k2
  have HB4 := Lib.hid (HB3.out.trans (hb4.mono HB3.out.size))
  clear hb4 hz3 HB3
  go_wp2_with fail
  refine (error_none w4).mono ?_
  rintro e w' ⟨rfl, rfl⟩
  go_wp2_with fail
  refine (code_fault b 0 c w4 k1).mono ?_
  rintro e w' ⟨rfl, rfl⟩
  go_wp2_with fail
  refine (where_fault b 0 s w4 k2).mono ?_
  rintro e w' ⟨rfl, rfl⟩
  go_wp2_with fail
  refine (code_errno c w4).mono ?_
  rintro e w' ⟨rfl, rfl⟩
  go_wp2_with fail
  refine (where_errno c w4).mono ?_
  rintro e w' ⟨rfl, rfl⟩
  go_wp2_with fail
  refine (code_nil w4).mono ?_
  rintro e w' ⟨rfl, rfl⟩
  go_wp2_with fail
  refine (where_nil w4).mono ?_
  rintro e w' ⟨rfl, rfl⟩
  go_wp2_with fail
  refine (code_none w4).mono ?_
  rintro e w' ⟨rfl, rfl⟩
  go_wp2_with fail
  refine (where_none w4).mono ?_
  rintro e w' ⟨rfl, rfl⟩
  go_wp2_with fail
  refine (try_nil w4).mono ?_
  rintro e w5 ⟨rfl, hb5⟩
  have HB5 := Lib.hid (HB4.out.trans (hb5.mono HB4.out.size))
  clear hb5
  go_wp2_with fail
  go_ret
  exact ⟨rfl, HB5.out⟩

end Go.Proofs.Ytlecghbhoecedaa
