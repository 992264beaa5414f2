/- Contracts of appendNumber, appendSign. -/
import Derived.Test.YtanmkddmebhdpaaDoorUtj
namespace Go.Proofs.YtanmkddmebhdpaaDoor
set_option maxRecDepth 20000
open Go.RowKit Go.Lib

theorem ofInt_i32 (a : Nat) (ha : a < 2147483648) : (BitVec.ofInt 32 (a : Int)).toNat = a := by
  rw [BitVec.ofInt_natCast, BitVec.toNat_ofNat]; exact Nat.mod_eq_of_lt (by omega)
theorem wrap_i32 (n : Nat) (h : n < 2147483648) : IntKind.i32.wrap (n : Int) = (n : Int) := by
  unfold IntKind.wrap
  simp [IntKind.signed, IntKind.bits]
  omega
theorem i32_and (a b : Nat) (ha : a < 2147483648) (hb : b < 2147483648) : bits .and .i32 (a : Int) (b : Int) = ((a &&& b : Nat) : Int) := by
  have hx : a &&& b < 2 ^ 31 := Nat.and_lt_two_pow _ (by omega)
  show IntKind.i32.wrap ((BitVec.ofInt 32 (a : Int) &&& BitVec.ofInt 32 (b : Int)).toNat : Int) = _
  rw [BitVec.toNat_and, ofInt_i32 a ha, ofInt_i32 b hb, wrap_i32 _ (by omega)]
theorem i32_or (a b : Nat) (ha : a < 2147483648) (hb : b < 2147483648) : bits .or .i32 (a : Int) (b : Int) = ((a ||| b : Nat) : Int) := by
  have hx : a ||| b < 2 ^ 31 := Nat.or_lt_two_pow (by omega) (by omega)
  show IntKind.i32.wrap ((BitVec.ofInt 32 (a : Int) ||| BitVec.ofInt 32 (b : Int)).toNat : Int) = _
  rw [BitVec.toNat_or, ofInt_i32 a ha, ofInt_i32 b hb, wrap_i32 _ (by omega)]
theorem and15 (a : Nat) (z : Int) (hz : z = (a : Int)) (ha : a < 2147483648) : bits .and .i32 z 15 = ((a % 16 : Nat) : Int) := by
  rw [hz]
  have := i32_and a 15 ha (by decide)
  rw [show (15 : Nat) = 2 ^ 4 - 1 from rfl, Nat.and_two_pow_sub_one_eq_mod] at this
  exact this
theorem and1023 (a : Nat) (z : Int) (hz : z = (a : Int)) (ha : a < 2147483648) : bits .and .i32 z 1023 = ((a % 1024 : Nat) : Int) := by
  rw [hz]
  have := i32_and a 1023 ha (by decide)
  rw [show (1023 : Nat) = 2 ^ 10 - 1 from rfl, Nat.and_two_pow_sub_one_eq_mod] at this
  exact this
theorem or16 (n f : Nat) (z : Int) (hz : z = ((n * 16 : Nat) : Int)) (hn : n * 16 + f < 2147483648) (hf : f < 16) : bits .or .i32 z (f : Int) = ((n * 16 + f : Nat) : Int) := by
  rw [hz, i32_or _ _ (by omega) (by omega)]
  have := Nat.two_pow_add_eq_or_of_lt (i := 4) (b := f) (by omega) n
  rw [Nat.mul_comm] at this
  rw [← this]

def figS : ByteArray := ⟨#[48, 49, 50, 51, 52, 53, 54, 55, 56, 57, 97, 98, 99, 100, 101, 102]⟩
theorem fig_get (a : Nat) (h : a < 16) : ∀ h2 : a < figS.size, figS[a]'h2 = figB a := by
  have key : ∀ a : Fin 16, (figS[a.val]'(a.isLt)) = figB a.val := by decide +kernel
  intro h2
  exact key ⟨a, h⟩
theorem fig_at (a : Nat) (h : a < 16) (w : World) : (Instr.index 9 (.string figS) (.int .i32 (a : Int))).run Tryd.prog w = .ok (.int .u8 ((figB a).toNat : Int)) w := by
  have hs : figS.size = 16 := rfl
  rw [run_index_string (P := Tryd.prog) w 9 figS .i32 (a : Int) Tryd.underlying9, dif_pos ⟨by omega, by rw [hs]; omega⟩]
  simp only [Int.toNat_natCast, fig_get a h]
set_option maxHeartbeats 2000000 in
theorem appnum (A : Option Addr) (n k B x : Nat) (l : List UInt8) (w : World) (ho : Own w B (.slice A n k) l) (hB : B ≤ w.heap.size) (hl : l.length ≤ 900000) (hx : x < 65536) :
    Calls Tryd.prog 38 #[.slice A n k, .int .i32 (x : Int)] w fun e w' => ∃ v', e = .returned v' ∧ Own w' B v' (l ++ fourL x) ∧ w.grownBy w' (Value.slice A n k).ownBlock := by
  obtain ⟨a, ha, ha2⟩ : ∃ a, x / 4096 = a ∧ a < 16 := ⟨_, rfl, by omega⟩
  obtain ⟨b, hb, hb2⟩ : ∃ b, x / 256 % 16 = b ∧ b < 16 := ⟨_, rfl, by omega⟩
  obtain ⟨c, hc, hc2⟩ : ∃ c, x / 16 % 16 = c ∧ c < 16 := ⟨_, rfl, by omega⟩
  obtain ⟨d, hd, hd2⟩ : ∃ d, x % 16 = d ∧ d < 16 := ⟨_, rfl, by omega⟩
  have e0 : (x : Int) / 4096 = (a : Int) := by omega
  have e1 : bits .and .i32 ((x : Int) / 256) 15 = (b : Int) := by rw [and15 (x / 256) _ (by omega) (by omega), hb]
  have e2 : bits .and .i32 ((x : Int) / 16) 15 = (c : Int) := by rw [and15 (x / 16) _ (by omega) (by omega), hc]
  have e3 : bits .and .i32 (x : Int) 15 = (d : Int) := by rw [and15 x _ rfl (by omega), hd]
  have k0 := fig_at a ha2
  have k1 := fig_at b hb2
  have k2 := fig_at c hc2
  have k3 := fig_at d hd2
  unfold figS at k0 k1 k2 k3
  have HF : RowKit.Hid (fourL x = [92, 117, figB a, figB b, figB c, figB d]) := Lib.hid (by unfold fourL; rw [ha, hb, hc, hd])
  have HO := Lib.hid (And.intro ho hl)
  generalize figB a = u0 at k0 HF
  generalize figB b = u1 at k1 HF
  generalize figB c = u2 at k2 HF
  generalize figB d = u3 at k3 HF
  clear ho hl hx ha hb hc hd ha2 hb2 hc2 hd2
  go_enter Tryd.func38, Tryd.ntmps38
  go_wp2_with fail
  go_region_law (refine step8 w rfl (.tmp 5) (.tmp 20) rfl B (.slice A n k) l [92, 117, u0, u1, u2, u3] _ 6 rfl rfl HO.out.1 rfl rfl hB (by have := HO.out.2; omega) ?_; intro v' w' h1 h2)
  all_goals
    have HR := Lib.hid (And.intro h1 h2)
    clear h1 h2 k0 k1 k2 k3 e0 e1 e2 e3
    go_wp2_with fail
    go_ret
    exact ⟨v', rfl, by rw [HF.out]; exact HR.out.1, HR.out.2⟩
end Go.Proofs.YtanmkddmebhdpaaDoor
