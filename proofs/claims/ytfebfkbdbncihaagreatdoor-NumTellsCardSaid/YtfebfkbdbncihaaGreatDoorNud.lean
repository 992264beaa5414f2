/- Contract of read. -/
import Derived.Test.YtfebfkbdbncihaaGreatDoorNuc
namespace Go.Proofs.YtfebfkbdbncihaaGreatDoor
set_option maxRecDepth 20000
open Go.RowKit

def rdErr (l : List UInt8) : Nat := if l.length ≤ 64 then (if spOk l then 0 else 2) else 3
/-- What read leaves. -/
def RdM (w : World) (l : List UInt8) (e : Ending) (w' : World) : Prop :=
  Below w.heap.size w w' ∧ ∃ (m : Bool) (a b : ByteArray) (z : Int), e = .returned (.tuple #[.agg #[.bool m, .string a, .string b, .int .i64 z], errV (rdErr l)]) ∧ (rdErr l = 0 → m = spM l ∧ a = tx (spA l) ∧ b = tx (spB l) ∧ z = spZ l)
/-- A variable of parts at N, all below it as it was. -/
structure OW (w : World) (N : Nat) (W : World) (cs : Array Value) : Prop where
  r0 : Row W N cs 56
  bl : Below N w W
  sz : N + 1 ≤ W.heap.size
theorem ow_new (w : World) (cs : Array Value) : OW w w.heap.size (w.alloc (.cells cs 56)) cs :=
  ⟨Row.new w cs 56, below_make (World.grownBy_alloc w _ none), by simp⟩
theorem OW.grown {w W W' : World} {N : Nat} {cs : Array Value} (h : OW w N W cs) (hg : W.grownBy W' none) : OW w N W' cs :=
  ⟨h.r0.grown hg (by simp), h.bl.grown hg (by have := h.sz; omega) (fun _ e => by cases e), Nat.le_trans h.sz hg.size⟩
theorem OW.below {w W W' : World} {N : Nat} {cs : Array Value} (h : OW w N W cs) (hb : Below W.heap.size W W') : OW w N W' cs :=
  ⟨h.r0.below hb h.r0.lt, h.bl.trans (hb.mono (by have := h.sz; omega)), Nat.le_trans h.sz hb.size⟩
theorem OW.fin {w W : World} {N : Nat} {cs : Array Value} (h : OW w N W cs) (hc : cs.size = 4) (a b c d : Value) : Row ((((W.setCell ⟨N, 0, none⟩ a).setCell ⟨N, 1, none⟩ b).setCell ⟨N, 2, none⟩ c).setCell ⟨N, 3, none⟩ d) N #[a, b, c, d] 56 ∧
    Below N w ((((W.setCell ⟨N, 0, none⟩ a).setCell ⟨N, 1, none⟩ b).setCell ⟨N, 2, none⟩ c).setCell ⟨N, 3, none⟩ d) := by
  have hr := (((h.r0.set 0 a).set 1 b).set 2 c).set 3 d
  have he : (((cs.setIfInBounds 0 a).setIfInBounds 1 b).setIfInBounds 2 c).setIfInBounds 3 d = #[a, b, c, d] := by
    obtain ⟨l⟩ := cs
    match l, hc with
    | [x, y, z, u], _ => rfl
  rw [he] at hr
  refine ⟨hr, ?_⟩
  have hs := h.sz
  have g0 := grown_setCell W N 0 a
  have b0 := h.bl.grown g0 (by omega) (fun k e => by injection e with e; omega)
  have g1 := grown_setCell (W.setCell ⟨N, 0, none⟩ a) N 1 b
  have b1 := b0.grown g1 (by have := g0.size; omega) (fun k e => by injection e with e; omega)
  have g2 := grown_setCell ((W.setCell ⟨N, 0, none⟩ a).setCell ⟨N, 1, none⟩ b) N 2 c
  have b2 := b1.grown g2 (by have := g0.size; have := g1.size; omega) (fun k e => by injection e with e; omega)
  exact b2.grown (grown_setCell _ N 3 d) (by have := g0.size; have := g1.size; have := g2.size; omega) (fun k e => by injection e with e; omega)
set_option maxHeartbeats 4000000 in
theorem read_any (l : List UInt8) (w : World) (hl : l.length ≤ 100000) : Calls Tryz.prog 28 #[.string (tx l)] w (RdM w l) := by
  have hs : (tx l).size = l.length := tx_size _
  by_cases h64 : l.length ≤ 64
  · have HS := Lib.hid (fun wx => split_any l wx hl)
    have hd : ¬ (64 : Int) < (l.length : Int) := by omega
    have HR : RowKit.Hid (rdErr l = if spOk l then 0 else 2) := Lib.hid (by unfold rdErr; rw [if_pos h64])
    generalize tx l = s at hs HS ⊢
    generalize l.length = n at hs hd h64
    clear h64
    cases hk : spOk l
    all_goals
      rw [hk] at HR
      go_enter Tryz.func28, Tryz.ntmps28
      go_wp2_with fail
      refine (HS.out _).mono ?_
      rintro e w2 ⟨hb2, m, a, b, z, rfl, hok⟩
      rw [hk] at hok ⊢
      have HX := Lib.hid ((ow_new w #[.bool false, .string ⟨#[]⟩, .string ⟨#[]⟩, .int .i64 0]).below hb2)
      have HOK := Lib.hid hok
      clear hb2 hok
      generalize hN : w.heap.size = N at HX ⊢
      have HNN := Lib.hid hN
      have HY := Lib.hid (HX.out.grown (World.grownBy_alloc w2 (.cells #[.bool m, .string a, .string b, .int .i64 z] 56) none))
      have HZ : RowKit.Hid (Row (w2.alloc (.cells #[.bool m, .string a, .string b, .int .i64 z] 56)) w2.heap.size #[.bool m, .string a, .string b, .int .i64 z] 56) := Lib.hid (Row.new w2 _ _)
      have n0 : (w2.alloc (.cells #[.bool m, .string a, .string b, .int .i64 z] 56)).cell? ⟨N, 0, none⟩ = some (.bool false) := HY.out.r0.cell 0
      have n1 : (w2.alloc (.cells #[.bool m, .string a, .string b, .int .i64 z] 56)).cell? ⟨N, 1, none⟩ = some (.string ⟨#[]⟩) := HY.out.r0.cell 1
      have n2 : (w2.alloc (.cells #[.bool m, .string a, .string b, .int .i64 z] 56)).cell? ⟨N, 2, none⟩ = some (.string ⟨#[]⟩) := HY.out.r0.cell 2
      have n3 : (w2.alloc (.cells #[.bool m, .string a, .string b, .int .i64 z] 56)).cell? ⟨N, 3, none⟩ = some (.int .i64 0) := HY.out.r0.cell 3
      have f0 : ∀ j, (w2.alloc (.cells #[.bool m, .string a, .string b, .int .i64 z] 56)).frozen? ⟨N, j, none⟩ = false := fun j => HY.out.r0.thawed j
      clear hN
      go_wp2_with fail
    · obtain ⟨hr, hb⟩ := HY.out.fin rfl (.bool false) (.string ⟨#[]⟩) (.string ⟨#[]⟩) (.int .i64 0)
      exact bodyPost_ret (results_two rfl _ _ N 56 _ _ _ rfl rfl hr Tryz.underlying56 rfl size56) rfl ⟨by rw [HNN.out]; exact hb, _, _, _, _, by rw [HR.out]; rfl, fun h => by rw [HR.out] at h; cases h⟩
    · obtain ⟨hr, hb⟩ := HY.out.fin rfl (.bool m) (.string a) (.string b) (.int .i64 z)
      exact bodyPost_ret (results_two rfl _ _ N 56 _ _ _ rfl rfl hr Tryz.underlying56 rfl size56) rfl ⟨by rw [HNN.out]; exact hb, _, _, _, _, by rw [HR.out]; rfl, fun _ => HOK.out trivial⟩
  · have HR : RowKit.Hid (rdErr l = 3) := Lib.hid (by unfold rdErr; rw [if_neg h64])
    have hd : 64 < (l.length : Int) := by omega
    have HX := Lib.hid (ow_new w #[.bool false, .string ⟨#[]⟩, .string ⟨#[]⟩, .int .i64 0])
    generalize tx l = s at hs ⊢
    generalize l.length = n at hs hd h64
    go_enter Tryz.func28, Tryz.ntmps28
    go_wp2_with fail
    exact bodyPost_ret (results_two rfl _ _ w.heap.size 56 _ _ _ rfl rfl HX.out.r0 Tryz.underlying56 rfl size56) rfl ⟨HX.out.bl, _, _, _, _, by rw [HR.out]; rfl, fun h => by rw [HR.out] at h; cases h⟩
end Go.Proofs.YtfebfkbdbncihaaGreatDoor
