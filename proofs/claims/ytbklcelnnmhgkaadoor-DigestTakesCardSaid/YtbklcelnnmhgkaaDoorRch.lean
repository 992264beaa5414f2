/- Contract of the reference's Chain. -/
import Derived.Test.YtbklcelnnmhgkaaDoorChn
import Derived.Test.YtbklcelnnmhgkaaDoorRf5
namespace Go.Proofs.YtbklcelnnmhgkaaDoor
open Go.RowKit

theorem chain_list (a b : ByteArray) : (a ++ ⟨#[32]⟩ ++ b : ByteArray).data.toList = a.data.toList ++ 32 :: b.data.toList := by
  simp [ByteArray.data_append]
theorem chain_size (a b : ByteArray) : (a ++ ⟨#[32]⟩ ++ b : ByteArray).size = a.size + 1 + b.size := by
  rw [ByteArray.size_append, ByteArray.size_append]; rfl
theorem rd_chain (w : World) (a b : ByteArray) : Rd (Lib.bytesWorld w 5 (a ++ ⟨#[32]⟩ ++ b)) (Lib.bytesWorld w 5 (a ++ ⟨#[32]⟩ ++ b)).heap.size (some ⟨w.heap.size, 0, none⟩) (a.size + 1 + b.size) (us (a.data.toList ++ 32 :: b.data.toList)) := by
  have h := rd_bytes w (a ++ ⟨#[32]⟩ ++ b)
  rw [chain_list, chain_size] at h
  exact h

set_option maxHeartbeats 400000 in
theorem rchain_any (a b : ByteArray) (w : World) (ha : a.size ≤ 200) (hb : b.size ≤ 200) :
    Calls Tryd.prog 22 #[.string a, .string b] w fun e w' => e = .returned (.string (nameP (ofP (a.data.toList ++ 32 :: b.data.toList)))) ∧ Below w.heap.size w w' := by
  have h1 : ¬ 9223372036854775807 < a.size + 1 := by omega
  have h2 : ¬ 9223372036854775807 < a.size + 1 + b.size := by omega
  have HA := Lib.hid ha
  have HB := Lib.hid hb
  clear ha hb
  have kb := conv_bytes
  obtain ⟨N, HO⟩ : ∃ N, RowKit.Hid (nameP (ofP (a.data.toList ++ 32 :: b.data.toList)) = N) := ⟨_, Lib.hid rfl⟩
  rw [HO.out]
  go_enter Tryd.func22, Tryd.ntmps22
  go_wp2_with fail
  have hr := rd_chain w a b
  have hb := below_bytes w (a ++ ⟨#[32]⟩ ++ b)
  refine (rof_any _ (a.size + 1 + b.size) _ _ _ hr (fun h => by cases h) (by have := HA.out; have := HB.out; omega)).mono ?_
  rintro e w2 ⟨rfl, hb2⟩
  rw [HO.out]
  have HB2 := Lib.hid (hb.trans (hb2.mono hb.size))
  clear hb hb2 hr kb
  go_wp2_with fail
  go_ret
  exact ⟨rfl, HB2.out⟩
end Go.Proofs.YtbklcelnnmhgkaaDoor
