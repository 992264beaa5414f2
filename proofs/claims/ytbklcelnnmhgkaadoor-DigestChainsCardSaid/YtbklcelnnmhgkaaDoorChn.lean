/- Contract of digest.Chain. -/
import Derived.Test.YtbklcelnnmhgkaaDoorNam
import Derived.Lib.ConvBytes
import Derived.Lib.SlBytesConst
namespace Go.Proofs.YtbklcelnnmhgkaaDoor
open Go.RowKit

theorem below_bytes (w : World) (s : ByteArray) : Below w.heap.size w (Lib.bytesWorld w 5 s) :=
  ⟨rfl, rfl, rfl, by rw [Lib.bytesWorld_size]; omega, fun k hk => Lib.bytesWorld_at_old w 5 s k hk⟩
theorem rd_bytes (w : World) (s : ByteArray) : Rd (Lib.bytesWorld w 5 s) (Lib.bytesWorld w 5 s).heap.size (some ⟨w.heap.size, 0, none⟩) s.size (us s.data.toList) := by
  refine ⟨by simp [us], fun _ => ⟨w.heap.size, 0, rfl, by rw [Lib.bytesWorld_size]; omega, fun j u hu => ?_⟩⟩
  have hj : j < s.size := by have := (List.getElem?_eq_some_iff.1 hu).1; simpa [us] using this
  rw [Nat.zero_add, Lib.bytesWorld_cell w 5 s j hj, ← hu]
  have hj' : j < s.data.toList.length := by simpa using hj
  simp only [us, List.getElem?_map, List.getElem?_eq_getElem hj', Option.map_some, List.getD, Option.getD_some]
theorem Rd.laid (w : World) (cs : Array Value) (fr : Nat × Nat) (l : List UInt8) (n : Nat) (h : cs.toList = us l) (hn : l.length = n) :
    Rd (w.alloc (.cells cs 5 fr)) (w.alloc (.cells cs 5 fr)).heap.size (some ⟨w.heap.size, 0, none⟩) n (us l) := by
  refine ⟨by rw [us_length, hn], fun _ => ⟨w.heap.size, 0, rfl, by simp, fun j u hu => ?_⟩⟩
  have hc : ∀ j u, cs.toList[j]? = some u → (w.alloc (.cells cs 5 fr)).cell? ((⟨w.heap.size, 0, none⟩ : Addr).add j) = some u := World.news_of_block (fr := fr) (by exact heap_alloc_new w _)
  have := hc j u (by rw [h]; exact hu)
  rw [Go.WideShapes.add_plain] at this
  exact this
theorem conv_bytes (w : World) (s : ByteArray) : (convert 9 22 (.string s)).run Tryd.prog w = .ok (.slice (some ⟨w.heap.size, 0, none⟩) s.size (grownCap w s.size 0 5)) (Lib.bytesWorld w 5 s) :=
  Lib.run_convert_string_bytes w 9 22 5 s Tryd.underlying9 Tryd.underlying22 Tryd.underlying5

/-- Three texts as three parts. -/
theorem three_parts (w : World) (a b : ByteArray) (c1 c2 : Nat) : RdP ((Lib.bytesWorld ((Lib.bytesWorld w 5 a).alloc (.cells #[.int .u8 32] 5 (1, 2))) 5 b).alloc (.cells #[.slice (some ⟨w.heap.size, 0, none⟩) a.size c1, .slice (some ⟨(Lib.bytesWorld w 5 a).heap.size, 0, none⟩) 1 1, .slice (some ⟨(Lib.bytesWorld w 5 a).heap.size + 1, 0, none⟩) b.size c2] 22))
      (some ⟨(Lib.bytesWorld ((Lib.bytesWorld w 5 a).alloc (.cells #[.int .u8 32] 5 (1, 2))) 5 b).heap.size, 0, none⟩) 3
      [.slice (some ⟨w.heap.size, 0, none⟩) a.size c1, .slice (some ⟨(Lib.bytesWorld w 5 a).heap.size, 0, none⟩) 1 1, .slice (some ⟨(Lib.bytesWorld w 5 a).heap.size + 1, 0, none⟩) b.size c2] [a.data.toList, [32], b.data.toList] ∧
    Below w.heap.size w ((Lib.bytesWorld ((Lib.bytesWorld w 5 a).alloc (.cells #[.int .u8 32] 5 (1, 2))) 5 b).alloc (.cells #[.slice (some ⟨w.heap.size, 0, none⟩) a.size c1, .slice (some ⟨(Lib.bytesWorld w 5 a).heap.size, 0, none⟩) 1 1, .slice (some ⟨(Lib.bytesWorld w 5 a).heap.size + 1, 0, none⟩) b.size c2] 22)) := by
  have b1 := below_bytes w a
  have r1 := rd_bytes w a
  generalize Lib.bytesWorld w 5 a = w1 at b1 r1 ⊢
  have b2 : Below w1.heap.size w1 (w1.alloc (.cells #[.int .u8 32] 5 (1, 2))) := (Below.refl _ _).alloc (Nat.le_refl _) _
  have r2 := Rd.laid w1 #[.int .u8 32] (1, 2) [32] 1 rfl rfl
  have e2 : (w1.alloc (.cells #[.int .u8 32] 5 (1, 2))).heap.size = w1.heap.size + 1 := by simp
  generalize w1.alloc (.cells #[.int .u8 32] 5 (1, 2)) = w2 at b2 r2 e2 ⊢
  have b3 := below_bytes w2 b
  have r3 := rd_bytes w2 b
  rw [← e2]
  generalize Lib.bytesWorld w2 5 b = w3 at b3 r3 ⊢
  have r1' := (r1.next b2).next b3
  have r2' := r2.next b3
  have hb : Below w.heap.size w w3 := (b1.trans (b2.mono b1.size)).trans (b3.mono (Nat.le_trans b1.size b2.size))
  refine ⟨RdP.lit w3 _ _ _ 3 rfl rfl rfl (fun j u m hu hl => ?_), hb.alloc hb.size _⟩
  match j, hu, hl with
  | 0, hu, hl => injection hu with hu; injection hl with hl; subst hu hl; exact ⟨_, _, _, rfl, (fun h => by cases h), r1'⟩
  | 1, hu, hl => injection hu with hu; injection hl with hl; subst hu hl; exact ⟨_, _, _, rfl, (fun h => by cases h), r2'⟩
  | 2, hu, hl => injection hu with hu; injection hl with hl; subst hu hl; exact ⟨_, _, _, rfl, (fun h => by cases h), r3⟩

set_option maxHeartbeats 400000 in
theorem chain_any (a b : ByteArray) (w : World) (ht : Tabs w) (ha : a.size ≤ 200) (hb : b.size ≤ 200) :
    Calls Tryd.prog 21 #[.string a, .string b] w fun e w' => e = .returned (.string (nameP (ofP (a.data.toList ++ 32 :: b.data.toList)))) ∧ Below w.heap.size w w' := by
  have HT := Lib.hid ht
  have HA := Lib.hid ha
  have HB := Lib.hid hb
  clear ht ha hb
  obtain ⟨L, HO⟩ : ∃ L, RowKit.Hid (ofP (a.data.toList ++ 32 :: b.data.toList) = L) := ⟨_, Lib.hid rfl⟩
  have hLL : L.length = 32 := by rw [← HO.out]; rfl
  rw [HO.out]
  have kb := conv_bytes
  have kc : ∀ (w : World) (C : Array Value) (n c : Nat), (convert 22 22 (.slice (some ⟨w.heap.size, 0, none⟩) n c)).run Tryd.prog (w.alloc (.cells C 5)) = .ok (.slice (some ⟨w.heap.size, 0, none⟩) n c) (w.alloc (.cells C 5 (C.size, C.size + 1))) := fun w C n c => Lib.run_convert_bytes_const w 22 5 C n c Tryd.underlying22 Tryd.underlying5
  go_enter Tryd.func21, Tryd.ntmps21
  go_wp2_with fail
  have h3 := three_parts w a b (grownCap w a.size 0 5) (grownCap ((Lib.bytesWorld w 5 a).alloc (.cells #[.int .u8 32] 5 (1, 2))) b.size 0 5)
  refine (of_any _ 3 3 _ _ _ h3.1 (HT.out.below h3.2 HT.out.size) (by have := HA.out; have := HB.out; simp; omega) (by decide)).mono ?_
  rintro e w4 ⟨rfl, hb4⟩
  rw [show ofP [a.data.toList, [32], b.data.toList].flatten = L by rw [← HO.out]; simp]
  have HB4 := Lib.hid (h3.2.trans (hb4.mono h3.2.size))
  clear hb4 h3 kb kc
  go_wp2_with fail
  refine (name_any L hLL w4).mono ?_
  rintro e w5 ⟨rfl, hb5⟩
  have HB5 := Lib.hid (HB4.out.trans (hb5.mono HB4.out.size))
  clear hb5 HB4
  go_wp2_with fail
  go_ret
  exact ⟨rfl, HB5.out⟩
end Go.Proofs.YtbklcelnnmhgkaaDoor
