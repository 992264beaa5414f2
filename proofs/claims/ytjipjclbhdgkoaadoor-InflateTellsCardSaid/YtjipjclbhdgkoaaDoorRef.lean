
/- Contracts of the reference's Of, Put, Text and Number. -/
import Derived.Test.YtjipjclbhdgkoaaDoorGroupB
namespace Go.Proofs.YtjipjclbhdgkoaaDoor
open Go.RowKit

/-- What a loop keeps: the row that grows, and that nothing old has turned. -/
structure Grows (w : World) (v : Value) (l : List UInt8) (wr : World) : Prop where
  own : Own wr w.heap.size v l
  below : Below w.heap.size w wr
theorem Grows.size {w wr : World} {v : Value} {l : List UInt8} (h : Grows w v l wr) : w.heap.size ≤ wr.heap.size := h.below.size
theorem Grows.push {w wr w' : World} {v v' : Value} {l l' : List UInt8} (h : Grows w v l wr) (ho : Own w' w.heap.size v' l') (hg : wr.grownBy w' v.ownBlock) : Grows w v' l' w' :=
  ⟨ho, h.own.grown hg h.below h.size⟩
theorem Grows.rd {w wr : World} {v : Value} {l : List UInt8} (h : Grows w v l wr) {A : Option Addr} {n : Nat} {xs : List Value} (hr : Rd w w.heap.size A n xs) : Rd wr w.heap.size A n xs := hr.below h.below
theorem Grows.start (w : World) : Grows w (.slice (some ⟨w.heap.size, 0, none⟩) 0 0) [] (w.alloc (.cells #[] 5)) :=
  ⟨Own.lit w #[] [] 0 rfl rfl (by decide), (Below.refl _ _).alloc (Nat.le_refl _) _⟩

theorem bit8 (x : UInt8) (k : Nat) : bits .and .u8 ((x.toNat : Int) / 2 ^ k) 1 = ((bitN x.toNat k).toNat : Int) := by
  have h1 : (x.toNat : Int) / 2 ^ k = ((x.toNat / 2 ^ k : Nat) : Int) := by simp
  have hlt : x.toNat / 2 ^ k < 256 := Nat.lt_of_le_of_lt (Nat.div_le_self _ _) x.toNat_lt
  rw [h1, bitN_toNat]
  have := u8_and_nat (x.toNat / 2 ^ k) 1 hlt (by decide)
  rw [Nat.and_one_is_mod] at this
  exact this

set_option maxHeartbeats 400000 in
theorem rof_any (A : Option Addr) (n c : Nat) (l : List UInt8) (w : World) (hr : Rd w w.heap.size A n (us l)) (hn : n ≤ 100000) :
    Calls Tryd.prog 17 #[.slice A n c] w fun e w' => ∃ v, e = .returned v ∧ Grows w v (bitsL l) w' := by
  have hl : l.length = n := by have := hr.1; rwa [us_length] at this
  have HR := Lib.hid hr
  have HL := Lib.hid hl
  clear hr hl
  go_enter Tryd.func17, Tryd.ntmps17
  go_wp2_with fail
  have HG := Lib.hid (Grows.start w)
  generalize (Value.slice (some ⟨w.heap.size, 0, none⟩) 0 0) = v0 at HG ⊢
  generalize w.alloc (.cells #[] 5) = w0 at HG ⊢
  go_loopw [3, 4] (fun v i wr => ∃ k : Nat, k ≤ n ∧ i = .int .i64 k ∧ Grows w v (bitsL (l.take k)) wr) (fun _ i _ => n - (intOf i).toNat)
  case atStart => exact ⟨0, by omega, rfl, HG.out⟩
  case round =>
    clear HG
    obtain ⟨k, hk, rfl, hG⟩ := hrel
    have HG := Lib.hid hG
    clear hG
    by_cases hlt : k < n
    · have hdk : decide ((k : Int) < (n : Int)) = true := decide_eq_true (by omega)
      obtain ⟨x, hx⟩ : ∃ x, l[k]? = some x := ⟨_, List.getElem?_eq_getElem (by rw [HL.out]; exact hlt)⟩
      have HX := Lib.hid hx
      clear hx
      go_wp2_with fail
      go_loopw [3, 5] (fun v i wq => ∃ j : Nat, j ≤ 8 ∧ i = .int .i64 j ∧ Grows w v (bitsL (l.take k) ++ lowB x.toNat j) wq) (fun _ i _ => 8 - (intOf i).toNat)
      case atStart => exact ⟨0, by omega, rfl, by simpa [lowB] using HG.out⟩
      case round =>
        clear HG
        obtain ⟨j, hj, rfl, hG⟩ := hrel
        have HG := Lib.hid hG
        clear hG
        by_cases hjt : j < 8
        · have hdj : decide ((j : Int) < 8) = true := decide_eq_true (by omega)
          obtain ⟨g, o, x', rfl, hg, hx', hc⟩ := (HG.out.rd HR.out).at8 hlt
          have hxx : x' = x := by have := HX.out; rw [hx'] at this; injection this
          subst hxx
          have e1 := bit8 x' j
          have hlen : (bitsL (l.take k) ++ lowB x'.toNat j).length + 1 ≤ 1000000 := by
            rw [List.length_append, bitsL_length, List.length_take, lowB_length]; omega
          have HN := Lib.hid hlen
          clear hlen hx'
          go_wp2_with (at_builtin; refine push8 wr rfl (.tmp 17) (.tmp 26) rfl w.heap.size u3 _ [bitN x'.toNat j] _ 1 rfl rfl HG.out.own rfl rfl HG.out.size HN.out ?_)
          intro v' w' ho hg' _
          have HG2 := Lib.hid (HG.out.push ho hg')
          clear ho hg'
          go_wp2_with fail
          go_roundw
          case rel => exact ⟨j + 1, by omega, by go_num, by rw [lowB_succ, ← List.append_assoc]; simpa using HG2.out⟩
          case measure => simp [intOf]; omega
        · have hj8 : j = 8 := by omega
          subst hj8
          have hdj : decide (((8 : Nat) : Int) < 8) = false := rfl
          have HG2 : RowKit.Hid (Grows w u3 (bitsL (l.take (k + 1))) wr) := Lib.hid (by rw [take_more HX.out, bitsL_append, bitsL_one]; exact HG.out)
          clear HG
          go_wp2_with fail
          go_roundw
          case rel => exact ⟨k + 1, by omega, by go_num, HG2.out⟩
          case measure => simp [intOf]; omega
    · have hkn : k = n := by omega
      subst hkn
      rw [List.take_of_length_le (by rw [HL.out]; omega)] at HG
      have hdk : decide ((k : Int) < (k : Int)) = false := decide_eq_false (by omega)
      go_wp2_with fail
      go_ret
      exact ⟨u3, rfl, HG.out⟩

set_option maxHeartbeats 400000 in
theorem rnumber_any (A : Option Addr) (n c : Nat) (m : List UInt8) (w : World) (hr : Rd w w.heap.size A n (us m)) (hb : Bin m) (hn : n ≤ 32) :
    Calls Tryd.prog 29 #[.slice A n c] w fun e w' => e = .returned (.int .u32 (numB m : Int)) ∧ w' = w := by
  have hl : m.length = n := by have := hr.1; rwa [us_length] at this
  have HR := Lib.hid hr
  have HL := Lib.hid hl
  have HBN := Lib.hid hb
  clear hr hl hb
  go_enter Tryd.func29, Tryd.ntmps29
  go_wp2_with fail
  go_loopw [3, 4] (fun x i wr => ∃ k : Nat, k ≤ n ∧ x = .int .u64 (numB (m.drop k) : Int) ∧ i = .int .i64 ((k : Int) - 1) ∧ wr = w) (fun _ i _ => (intOf i + 1).toNat)
  case atStart => exact ⟨n, by omega, by rw [List.drop_of_length_le (by rw [HL.out]; omega)]; rfl, by simp, rfl⟩
  case round =>
    obtain ⟨k, hk, rfl, rfl, rfl⟩ := hrel
    have hN : ∀ q, numB (m.drop q) < 4294967296 := fun q => Nat.lt_of_lt_of_le (numB_lt (HBN.out.drop q)) (by
      have := Nat.pow_le_pow_right (show 0 < 2 by decide) (show (m.drop q).length ≤ 32 by rw [List.length_drop, HL.out]; omega)
      exact this)
    by_cases hlt : 0 < k
    · obtain ⟨q, rfl⟩ : ∃ q, k = q + 1 := ⟨k - 1, by omega⟩
      have hdk : decide (0 ≤ (((q + 1 : Nat) : Int) - 1)) = true := decide_eq_true (by omega)
      have hqi : ((q + 1 : Nat) : Int) - 1 = (q : Int) := by omega
      have hqj : (q : Int) + 1 - 1 = (q : Int) := by omega
      have hd0 : decide (0 ≤ (q : Int)) = true := decide_eq_true (by omega)
      rw [hqi]
      obtain ⟨g, o, x, rfl, hg, hx, hc⟩ := HR.out.at8 (k := q) (by omega)
      have HS := Lib.hid (numB_drop hx)
      have h1 := hN (q + 1)
      have h2 := hN q
      have hx1 := HBN.out.at hx
      generalize numB (m.drop (q + 1)) = X at h1 HS ⊢
      clear hx hdk hqi hN hg
      go_wp2_with fail
      go_roundw
      case rel =>
        exact ⟨q, by omega, by rw [HS.out]; congr 1; omega, by simp, trivial⟩
      case measure => simp [intOf]
    · have hk0 : k = 0 := by omega
      subst hk0
      have hdk : decide (0 ≤ (((0 : Nat) : Int) - 1)) = false := rfl
      have h2 := hN 0
      rw [List.drop_zero] at h2 ⊢
      clear hN
      go_wp2_with fail
      go_ret
      exact ⟨rfl, rfl⟩
end Go.Proofs.YtjipjclbhdgkoaaDoor
