/- Hexadecimal as plain functions; contract of codec.Hex. -/
import Derived.Test.YtbklcelnnmhgkaaDoorFil
namespace Go.Proofs.YtbklcelnnmhgkaaDoor
open Go.RowKit

def figs : ByteArray := ⟨#[48, 49, 50, 51, 52, 53, 54, 55, 56, 57, 97, 98, 99, 100, 101, 102]⟩
def hexd (n : Nat) : UInt8 := if n < 10 then UInt8.ofNat (48 + n) else UInt8.ofNat (87 + n)
def hexL : List UInt8 → List UInt8
  | [] => []
  | b :: r => hexd (b.toNat / 16) :: hexd (b.toNat % 16) :: hexL r
theorem hexL_append (a b : List UInt8) : hexL (a ++ b) = hexL a ++ hexL b := by
  induction a with
  | nil => rfl
  | cons x a ih => simp [hexL, ih]
theorem hexL_length (a : List UInt8) : (hexL a).length = 2 * a.length := by
  induction a with
  | nil => rfl
  | cons x a ih => simp [hexL, ih]; omega

theorem Grows.made {w w' : World} {v : Value} (h : Own w' w.heap.size v []) (hg : w.grownBy w' none) : Grows w v [] w' := ⟨h, below_make hg, hg.size⟩
theorem Grows.drew {w wr : World} {v : Value} {l : List UInt8} (h : Grows w v l wr) : Grows w v l wr.drew := ⟨h.own.drew, h.below.drew, h.size⟩
theorem Grows.rd {w wr : World} {v : Value} {l : List UInt8} (h : Grows w v l wr) {A : Option Addr} {n : Nat} {xs : List Value} (hr : Rd w w.heap.size A n xs) : Rd wr w.heap.size A n xs := hr.below h.below
theorem figs_get : ∀ i : Fin 16, figs[i.val]'(by have := i.isLt; exact this) = hexd i.val := by decide +kernel
theorem figs_at (z : Int) (i : Nat) (h : z = i) (hi : i < 16) (hz : z.toNat < figs.size) : figs[z.toNat] = hexd i := by
  subst h
  exact figs_get ⟨i, hi⟩
theorem figs_pair (x : UInt8) (h1 : ((x.toNat : Int) / 16).toNat < figs.size) (h2 : ((x.toNat : Int) % 16).toNat < figs.size) :
    (#[Value.int .u8 ((figs[((x.toNat : Int) / 16).toNat]).toNat : Int), Value.int .u8 ((figs[((x.toNat : Int) % 16).toNat]).toNat : Int)] : Array Value).toList = us [hexd (x.toNat / 16), hexd (x.toNat % 16)] := by
  have hx : x.toNat < 256 := x.toNat_lt
  rw [figs_at _ (x.toNat / 16) (by omega) (by omega) h1, figs_at _ (x.toNat % 16) (by omega) (by omega) h2]
  rfl

set_option maxHeartbeats 400000 in
theorem hex_any (A : Option Addr) (n c : Nat) (l : List UInt8) (w : World) (hr : Rd w w.heap.size A n (us l)) (hn : n ≤ 4000) :
    Calls Tryd.prog 24 #[.slice A n c] w fun e w' => e = .returned (.string ⟨(hexL l).toArray⟩) ∧ Below w.heap.size w w' := by
  have hl : l.length = n := by have := hr.1; rwa [us_length] at this
  have HR := Lib.hid hr
  have HL := Lib.hid hl
  clear hr hl
  go_enter Tryd.func24, Tryd.ntmps24
  go_wp2_with (with_reducible refine make8 _ rfl _ _ rfl _ rfl rfl ?_ ?_ ?_)
  · omega
  · omega
  intro v w1 ho hg
  have hG := Grows.made ho hg
  clear ho hg
  go_wp2_with fail
  go_loopw [3, 12] (fun v i wr => ∃ k : Nat, k ≤ n ∧ i = .int .i64 k ∧ Grows w v (hexL (l.take k)) wr) (fun _ i _ => n - (intOf i).toNat)
  case atStart => exact ⟨0, Nat.zero_le _, rfl, by simpa [hexL] using hG⟩
  case round =>
    clear hG
    obtain ⟨k, hk, rfl, hG⟩ := hrel
    by_cases hlt : k < n
    · obtain ⟨g, o, x, rfl, hg, hx, hc⟩ := (hG.rd HR.out).at8 hlt
      have HX := Lib.hid hx
      have HG := Lib.hid hG
      clear hG hx
      have hx8 : x.toNat < 256 := x.toNat_lt
      go_wp2_with fail
      have hand : bits BinOp.and .u8 (x.toNat : Int) 15 = (x.toNat : Int) % 16 := by
        have := u8_and_nat x.toNat 15 hx8 (by decide)
        rw [nat_mask4] at this
        simpa using this
      have b1 : 0 ≤ (x.toNat : Int) / 16 := by omega
      have b2 : (x.toNat : Int) / 16 < 16 := by omega
      have b3 : 0 ≤ (x.toNat : Int) % 16 := by omega
      have b4 : (x.toNat : Int) % 16 < 16 := by omega
      have hlen : (hexL (l.take k)).length + 2 ≤ 1000000 := by
        rw [hexL_length, List.length_take]; omega
      have HN := Lib.hid hlen
      clear hlen
      go_region_law ((refine step8 wr rfl (.tmp 16) (.tmp 23) rfl w.heap.size u3 (hexL (l.take k)) [hexd (x.toNat / 16), hexd (x.toNat % 16)] _ 2 rfl rfl HG.out.own (figs_pair x _ _) rfl HG.out.size HN.out ?_); intro v' w' ho hg')
      all_goals
        try go_wp2_with fail
        have hG := HG.out.push ho hg'
        clear ho hg' HG
        go_roundw
        case rel => exact ⟨k + 1, by omega, by go_num, by rw [take_more HX.out, hexL_append]; exact hG⟩
        case measure => simp [intOf]; omega
    · have hkn : k = n := by omega
      subst hkn
      rw [List.take_of_length_le (by rw [HL.out]; omega)] at hG
      obtain ⟨A', c', rfl⟩ := hG.own.slice
      have hst := str8 wr _ A' _ c' _ hG.own.rd.2
      have HG := Lib.hid hG
      clear hG
      go_wp2_with fail
      go_ret
      exact ⟨rfl, HG.out.below⟩
end Go.Proofs.YtbklcelnnmhgkaaDoor
