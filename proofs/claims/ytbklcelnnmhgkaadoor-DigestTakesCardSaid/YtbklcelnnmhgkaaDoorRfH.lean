/- Contract of the reference's Hex. -/
import Derived.Test.YtbklcelnnmhgkaaDoorUnh
import Derived.BigRegion
namespace Go.Proofs.YtbklcelnnmhgkaaDoor
open Go.RowKit

def ns (l : List Int) : List Value := l.map (Value.int .i64)
/-- The same of numbers. -/
def OwnN (w : World) (B : Nat) (v : Value) (l : List Int) : Prop := w.ownsRow B 3 1 v l.length (ns l)
theorem own_nn {w : World} {B B' : Nat} {v v' : Value} {l : List UInt8} {l' : List Int} (h : Own w B v l) (h' : OwnN w B' v' l') : v.ownBlock = none ∨ v.ownBlock ≠ v'.ownBlock := by
  rcases h.2 with ⟨rfl, _⟩ | ⟨g, cap, cur, rfl, _, hh, _⟩
  · exact .inl rfl
  · rcases h'.2 with ⟨rfl, _⟩ | ⟨g', cap', cur', rfl, _, hh', _⟩
    · exact .inr (by simp [Value.ownBlock])
    · refine .inr fun he => ?_
      have : g = g' := by simpa [Value.ownBlock] using he
      subst this
      rw [hh] at hh'
      injection hh' with hh'
      injection hh' with _ ht
      exact absurd ht (by decide)
theorem own_nn' {w : World} {B B' : Nat} {v v' : Value} {l : List UInt8} {l' : List Int} (h : Own w B v l) (h' : OwnN w B' v' l') : v'.ownBlock = none ∨ v'.ownBlock ≠ v.ownBlock := by
  rcases h'.2 with ⟨rfl, _⟩ | ⟨g, cap, cur, rfl, _, hh, _⟩
  · exact .inl rfl
  · rcases own_nn h h' with h0 | h0
    · exact .inr (by rw [h0]; simp [Value.ownBlock])
    · exact .inr (Ne.symm h0)
theorem OwnN.grown {w w' : World} {B : Nat} {a : World} {v : Value} {l : List Int} (h : OwnN w B v l) (hg : w.grownBy w' v.ownBlock) (hb : Below B a w) (hB : B ≤ w.heap.size) : Below B a w' :=
  hb.grown hg hB fun k hk => (World.ownsRow.lt h k hk).1
/-- Two rows that grow: bytes and bits. -/
structure Duo (w : World) (v : Value) (lo : List UInt8) (u : Value) (lb : List Int) (wr : World) : Prop where
  own : Own wr w.heap.size v lo
  ownI : OwnN wr w.heap.size u lb
  below : Below w.heap.size w wr
  size : w.heap.size ≤ wr.heap.size
theorem Duo.put8 {w wr w' : World} {v v' u : Value} {lo lo' : List UInt8} {lb : List Int} (h : Duo w v lo u lb wr) (ho : Own w' w.heap.size v' lo') (hg : wr.grownBy w' v.ownBlock) : Duo w v' lo' u lb w' :=
  ⟨ho, World.ownsRow.kept h.ownI hg (own_nn' h.own h.ownI), h.own.grown hg h.below h.size, Nat.le_trans h.size hg.size⟩
theorem Duo.grows {w wr : World} {v u : Value} {lo : List UInt8} {lb : List Int} (h : Duo w v lo u lb wr) : Grows w v lo wr := ⟨h.own, h.below, h.size⟩
theorem Grows.lit0 (w : World) : Grows w (.slice (some ⟨w.heap.size, 0, none⟩) 0 0) [] (w.alloc (.cells #[] 5)) :=
  ⟨Own.lit w #[] [] 0 rfl rfl (by decide), (Below.refl _ _).alloc (Nat.le_refl _) _, by simp⟩
theorem OwnN.cell {w : World} {B g n c : Nat} {l : List Int} (h : OwnN w B (.slice (some ⟨g, 0, none⟩) n c) l) {k : Nat} {x : Int} (hx : l[k]? = some x) : w.cell? ⟨g, k, none⟩ = some (.int .i64 x) := by
  have := World.ownsRow.cells h (g := g) rfl k (.int .i64 x) (by simp [ns, hx])
  rw [Go.WideShapes.add_plain] at this
  simpa using this

theorem OwnN.lit2 (w : World) (B : Nat) (hB : B ≤ w.heap.size) (a b : Int) : OwnN (w.alloc (.cells #[.int .i64 a, .int .i64 b] 3)) B (.slice (some ⟨w.heap.size, 0, none⟩) 2 2) [a, b] :=
  ⟨rfl, .inr ⟨w.heap.size, 2, #[.int .i64 a, .int .i64 b], rfl, hB, heap_alloc_new w _, Nat.le_refl _, by unfold maxLen; omega, rfl, rfl⟩⟩
theorem Duo.start2 {w wr : World} {v : Value} {lo : List UInt8} (h : Grows w v lo wr) (a b : Int) : Duo w v lo (.slice (some ⟨wr.heap.size, 0, none⟩) 2 2) [a, b] (wr.alloc (.cells #[.int .i64 a, .int .i64 b] 3)).drew :=
  ⟨World.ownsRow.alloc h.own _, OwnN.lit2 wr _ h.size a b, (h.below.alloc h.size _).drew, by have := h.size; show _ ≤ (wr.alloc _).heap.size; simp; omega⟩
theorem hexd_lo (i : Nat) (h : i < 10) : ((hexd i).toNat : Int) = 48 + (i : Int) := by
  unfold hexd; rw [if_pos h, toNat_small _ (by omega)]; omega
theorem hexd_hi (i : Nat) (h : ¬ i < 10) (h' : i < 16) : ((hexd i).toNat : Int) = 97 + (i : Int) - 10 := by
  unfold hexd; rw [if_neg h, toNat_small _ (by omega)]; omega
theorem byte_at (z : Int) (b : UInt8) (h : z = (b.toNat : Int)) : (#[Value.int .u8 z] : Array Value).toList = us [b] := by rw [h]; rfl

set_option maxHeartbeats 1000000 in
theorem refhex_any (A : Option Addr) (n c : Nat) (l : List UInt8) (w : World) (hr : Rd w w.heap.size A n (us l)) (hn : n ≤ 4000) :
    Calls Tryd.prog 11 #[.slice A n c] w fun e w' => e = .returned (.string ⟨(hexL l).toArray⟩) ∧ Below w.heap.size w w' := by
  have hl : l.length = n := by have := hr.1; rwa [us_length] at this
  have HR := Lib.hid hr
  have HL := Lib.hid hl
  clear hr hl
  go_enter Tryd.func11, Tryd.ntmps11
  go_wp2_with fail
  have hG := Grows.lit0 w
  generalize (Value.slice (some ⟨w.heap.size, 0, none⟩) 0 0) = v0 at hG ⊢
  generalize w.alloc (.cells #[] 5) = w0 at hG ⊢
  go_loopw [3, 4] (fun v i wr => ∃ k : Nat, k ≤ n ∧ i = .int .i64 k ∧ Grows w v (hexL (l.take k)) wr) (fun _ i _ => n - (intOf i).toNat)
  case atStart => exact ⟨0, by omega, rfl, hG⟩
  case round =>
    clear hG
    obtain ⟨k, hk, rfl, hG⟩ := hrel
    by_cases hlt : k < n
    · obtain ⟨g, off, x, rfl, hg, hx, hc⟩ := (hG.rd HR.out).at8 hlt
      have hx8 : x.toNat < 256 := x.toNat_lt
      have HX := Lib.hid hx
      have HG := Lib.hid hG
      clear hG hx
      have d0 : decide ((k : Int) < (n : Int)) = true := by simp; omega
      go_wp2_with fail
      go_region
      go_wp2_with fail
      have hD := Duo.start2 HG.out ((x.toNat : Int) / 16) ((x.toNat : Int) % 16)
      generalize (wr.alloc (.cells #[.int .i64 ((x.toNat : Int) / 16), .int .i64 ((x.toNat : Int) % 16)] 3)).drew = w1 at hD ⊢
      generalize wr.heap.size = N at hD ⊢
      clear HG hc
      have hlo : (hexL (l.take k)).length + 5 ≤ 1000000 := by rw [hexL_length, List.length_take]; omega
      go_loopw [3, 28] (fun v j wr => ∃ t : Nat, t ≤ 2 ∧ j = .int .i64 t ∧ Duo w v (hexL (l.take k) ++ [hexd (x.toNat / 16), hexd (x.toNat % 16)].take t) (.slice (some ⟨N, 0, none⟩) 2 2) [(x.toNat : Int) / 16, (x.toNat : Int) % 16] wr) (fun _ j _ => 2 - (intOf j).toNat)
      case atStart => exact ⟨0, by omega, rfl, by simpa using hD⟩
      case round =>
        clear hD
        obtain ⟨t, ht, rfl, hD⟩ := hrel
        have hlo2 : (hexL (l.take k) ++ [hexd (x.toNat / 16), hexd (x.toNat % 16)].take t).length + 1 ≤ 1000000 := by
          rw [List.length_append, List.length_take]; simp; omega
        have HLO := Lib.hid hlo2
        clear hlo2
        by_cases h2 : t < 2
        · have ht01 : t = 0 ∨ t = 1 := by omega
          clear h2 ht
          rcases ht01 with rfl | rfl
          · have hc0 := hD.ownI.cell (k := 0) (x := (x.toNat : Int) / 16) rfl
            have HD := Lib.hid hD
            clear hD
            by_cases h10 : x.toNat / 16 < 10
            · have hz := hexd_lo (x.toNat / 16) h10
              go_wp2_with (at_builtin; refine push8 wr rfl (.tmp 34) (.tmp 38) rfl w.heap.size _ (hexL (l.take k) ++ [hexd (x.toNat / 16), hexd (x.toNat % 16)].take 0) [hexd (x.toNat / 16)] _ 1 rfl rfl HD.out.own (byte_at _ _ (by rw [hz]; omega)) rfl HD.out.size HLO.out ?_)
              intro v' w' ho hg'
              have hD := HD.out.put8 ho hg'
              clear ho hg'
              have HD2 := Lib.hid hD
              clear hD hz
              go_wp2_with fail
              go_roundw
              case rel => exact ⟨0 + 1, by omega, by go_num, by simpa using HD2.out⟩
              case measure => simp [intOf]
            · have hz := hexd_hi (x.toNat / 16) h10 (by omega)
              go_wp2_with (at_builtin; refine push8 wr rfl (.tmp 40) (.tmp 45) rfl w.heap.size _ (hexL (l.take k) ++ [hexd (x.toNat / 16), hexd (x.toNat % 16)].take 0) [hexd (x.toNat / 16)] _ 1 rfl rfl HD.out.own (byte_at _ _ (by rw [hz]; omega)) rfl HD.out.size HLO.out ?_)
              intro v' w' ho hg'
              have hD := HD.out.put8 ho hg'
              clear ho hg'
              have HD2 := Lib.hid hD
              clear hD hz
              go_wp2_with fail
              go_roundw
              case rel => exact ⟨0 + 1, by omega, by go_num, by simpa using HD2.out⟩
              case measure => simp [intOf]
          · have hc0 := hD.ownI.cell (k := 1) (x := (x.toNat : Int) % 16) rfl
            have HD := Lib.hid hD
            clear hD
            by_cases h10 : x.toNat % 16 < 10
            · have hz := hexd_lo (x.toNat % 16) h10
              go_wp2_with (at_builtin; refine push8 wr rfl (.tmp 34) (.tmp 38) rfl w.heap.size _ (hexL (l.take k) ++ [hexd (x.toNat / 16), hexd (x.toNat % 16)].take 1) [hexd (x.toNat % 16)] _ 1 rfl rfl HD.out.own (byte_at _ _ (by rw [hz]; omega)) rfl HD.out.size HLO.out ?_)
              intro v' w' ho hg'
              have hD := HD.out.put8 ho hg'
              clear ho hg'
              have HD2 := Lib.hid hD
              clear hD hz
              go_wp2_with fail
              go_roundw
              case rel => exact ⟨1 + 1, by omega, by go_num, by simpa using HD2.out⟩
              case measure => simp [intOf]
            · have hz := hexd_hi (x.toNat % 16) h10 (by omega)
              go_wp2_with (at_builtin; refine push8 wr rfl (.tmp 40) (.tmp 45) rfl w.heap.size _ (hexL (l.take k) ++ [hexd (x.toNat / 16), hexd (x.toNat % 16)].take 1) [hexd (x.toNat % 16)] _ 1 rfl rfl HD.out.own (byte_at _ _ (by rw [hz]; omega)) rfl HD.out.size HLO.out ?_)
              intro v' w' ho hg'
              have hD := HD.out.put8 ho hg'
              clear ho hg'
              have HD2 := Lib.hid hD
              clear hD hz
              go_wp2_with fail
              go_roundw
              case rel => exact ⟨1 + 1, by omega, by go_num, by simpa using HD2.out⟩
              case measure => simp [intOf]
        · have ht2 : t = 2 := by omega
          subst ht2
          have hG := hD.grows
          have HG := Lib.hid hG
          clear hD hG h2
          go_wp2_with fail
          go_roundw
          case rel => exact ⟨k + 1, by omega, by go_num, by rw [take_more HX.out, hexL_append]; exact HG.out⟩
          case measure => simp [intOf]; omega
    · have hkn : k = n := by omega
      subst hkn
      rw [List.take_of_length_le (by rw [HL.out]; omega)] at hG
      obtain ⟨A', c', rfl⟩ := hG.own.slice
      have hst := str8 wr _ A' _ c' _ hG.own.rd.2
      have HG := Lib.hid hG
      clear hG
      go_wp2_with fail
      go_ret
      exact ⟨rfl, HG.out.below⟩
end Go.Proofs.YtbklcelnnmhgkaaDoor
