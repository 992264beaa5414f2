/- Contracts of document and of crossdocknum's Bytes. -/
import Derived.Test.YtnadnokjhinmcaaUtk
namespace Go.Proofs.Ytnadnokjhinmcaa
open Go.RowKit

theorem bytes_same (A B : Option Addr) (n c d : Nat) (l : List UInt8) (w : World) (hA : Rd w w.heap.size A n (us l)) (hB : Rd w w.heap.size B n (us l)) :
    Calls Try.prog 10 #[.slice A n c, .slice B n d] w fun e w' => e = .returned (.bool true) ∧ w' = w := by
  have h1 := str8 w _ A n c l hA
  have h2 := str8 w _ B n d l hB
  clear hA hB
  go_enter Try.func10, Try.ntmps10
  go_wp2_with fail
  go_ret
  exact ⟨rfl, rfl⟩
/-- What document's loop keeps. -/
structure DI (w wr : World) (u : Value) (l : List Tk) : Prop where
  own : OwnT 31 wr w.heap.size u l
  below : Below w.heap.size w wr
theorem DI.grown {w wr w' : World} {u : Value} {l : List Tk} (h : DI w wr u l) (hg : wr.grownBy w' none) : DI w w' u l :=
  ⟨World.ownsRow.kept h.own hg (ne_noneT u), h.below.trans ((below_make hg).mono h.below.size)⟩
theorem DI.push {w wr w' : World} {u u' : Value} {l l' : List Tk} (h : DI w wr u l) (ho : OwnT 31 w' w.heap.size u' l') (hg : wr.grownBy w' u.ownBlock) : DI w w' u' l' :=
  ⟨ho, h.below.grown hg h.below.size (fun k hk => (World.ownsRow.lt h.own k hk).1)⟩
set_option maxHeartbeats 2000000 in
set_option maxRecDepth 10000 in
theorem document_any (A : Option Addr) (n c : Nat) (l : List Tk) (w : World) (hr : RdT w w.heap.size A n l) (hn : n ≤ 1000000) :
    Calls Try.prog 7 #[.slice A n c] w fun e w' => ∃ v, e = .returned v ∧ OwnT 31 w' w.heap.size v l ∧ Below w.heap.size w w' := by
  have HR := Lib.hid hr
  clear hr
  go_enter Try.func7, Try.ntmps7
  go_wp2_with fail
  go_loopw [3, 9] (fun u i wr => ∃ k : Nat, i = .int .i64 (k : Int) ∧ k ≤ n ∧ DI w wr u (l.take k)) (fun _ i _ => n - (intOf i).toNat)
  case atStart => exact ⟨0, rfl, Nat.zero_le _, ⟨OwnT.lit0 31 w _ (Nat.le_refl _), (Below.refl _ _).alloc (Nat.le_refl _) _⟩⟩
  case round =>
    obtain ⟨k, rfl, hk, hI⟩ := hrel
    have HI := Lib.hid hI
    have hln : l.length = n := HR.out.1
    have hlen : (l.take k).length = k := by rw [List.length_take]; omega
    obtain ⟨Au, cu, hu⟩ := hI.own.slice
    subst hu
    rw [hlen] at HI ⊢
    clear hI
    by_cases hlt : k < n
    · have d1 : decide ((k : Int) < (n : Int)) = true := decide_eq_true (by omega)
      obtain ⟨g, oo, a, rfl, hg, ha, c0, c1, c2⟩ := (HR.out.below HI.out.below).cells hlt
      have HI2 := Lib.hid (HI.out.grown (World.grownBy_alloc wr (.cells #[U8 a.b, .int .i64 a.l, .int .i64 a.d] 45) none))
      have HB0 : RowKit.Hid (w.heap.size ≤ (wr.alloc (.cells #[U8 a.b, .int .i64 a.l, .int .i64 a.d] 45)).heap.size) := Lib.hid HI2.out.below.size
      have HD0 : RowKit.Hid ((l.take k).length ≤ 1000000) := Lib.hid (by omega)
      have HTM : RowKit.Hid (l.take (k + 1) = l.take k ++ [a]) := Lib.hid (take_more ha)
      clear hg ha hln hlen
      go_wp2_with (at_builtin; refine pushT 24 31 Try.underlying24 info31 (wr.alloc (.cells #[U8 a.b, .int .i64 a.l, .int .i64 a.d] 45)) (wr.heap.size + 1) (by simp) rfl _ _ rfl w.heap.size (.slice Au k cu) (l.take k) a _ rfl rfl HI2.out.own rfl HB0.out HD0.out ?_)
      intro v4 w4 ho4 hg4
      have HI4 := Lib.hid (HI2.out.push ho4 hg4)
      obtain ⟨A4, c4, rfl⟩ := ho4.slice
      clear ho4 hg4 c0 c1 c2
      go_wp2_with fail
      go_roundw
      case rel => exact ⟨k + 1, by simp, by omega, by rw [HTM.out]; first | exact HI4.out | simpa using HI4.out⟩
      case measure => simp [intOf]; omega
    · obtain rfl : k = n := by omega
      have d1 : decide ((k : Int) < (k : Int)) = false := decide_eq_false (by omega)
      have HLL : RowKit.Hid (l.take k = l) := Lib.hid (List.take_of_length_le (by omega))
      clear hln hlen
      go_wp2_with fail
      go_ret
      exact ⟨_, rfl, by rw [← HLL.out]; exact HI.out.own, HI.out.below⟩
end Go.Proofs.Ytnadnokjhinmcaa
