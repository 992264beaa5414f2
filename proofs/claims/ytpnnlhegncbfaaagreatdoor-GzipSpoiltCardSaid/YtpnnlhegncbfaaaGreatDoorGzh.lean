/- Contract of a file's head, where it is the one that is packed. -/
import Derived.Test.YtpnnlhegncbfaaaGreatDoorGzn
namespace Go.Proofs.YtpnnlhegncbfaaaGreatDoor
set_option maxRecDepth 20000
open Go.RowKit

set_option maxHeartbeats 4000000 in
theorem head_ok (g : Nat) (A : Option Addr) (n c : Nat) (b R : List UInt8) (lim : Nat) (v : Value) (at_ st : Nat) (text : List UInt8) (w : World) (h : FS w g A n c b lim v at_ st text) (hb : b.drop at_ = headB ++ R) :
    Calls Tryz.prog 50 #[.pointer (some ⟨g, 0, none⟩)] w fun e w' => e = .returned (.tuple #[]) ∧ FS w' g A n c b lim v (at_ + 10) st text ∧ w.grownBy w' (some g) := by
  have hlen : at_ + 10 ≤ n := by
    have h1 := congrArg List.length hb
    rw [List.length_drop, List.length_append, h.len] at h1
    have : headB.length = 10 := rfl
    omega
  have p0 : (b.drop at_).take 3 = [31, 139, 8] := by rw [hb]; rfl
  have p1 : (b.drop (at_ + 3)).take 1 = [0] := by rw [← List.drop_drop, hb]; rfl
  have HF := Lib.hid h
  have r1 : w.cell? ⟨g, 1, none⟩ = some (.int .i64 (at_ : Int)) := h.row.cell 1
  have HT := Lib.hid (take_ok g A n c b lim v at_ st text 3 w h (by omega))
  rw [p0] at HT
  have HB := Lib.hid (And.intro hlen p1)
  clear h hb hlen p0 p1
  rw [show ((3 : Nat) : Int) = 3 from rfl] at HT
  go_enter Tryz.func50, Tryz.ntmps50
  go_wp2_with fail
  refine HT.out.mono ?_
  rintro e w1 ⟨A1, c1, rfl, hr1, hm1, hf1, hg1⟩
  have HI := Lib.hid (gis_yes A1 3 c1 [31, 139, 8] w1 (hr1.more (Nat.le_of_lt hf1.lt)) hm1 rfl)
  have HF1 := Lib.hid (And.intro hf1 hg1)
  have HN := Lib.hid (number_ok g A n c b lim v (at_ + 3) st text 1 w1 hf1 (by have := HB.out.1; omega) (by decide))
  rw [HB.out.2] at HN
  rw [show ((1 : Nat) : Int) = 1 from rfl, show ((numL [0] : Nat) : Int) = 0 from rfl] at HN
  clear hr1 hm1 hf1 hg1 HT
  go_wp2_with fail
  refine HI.out.mono ?_
  rintro e wz ⟨rfl, rfl⟩
  go_wp2_with fail
  refine (gzmust_ok 11 _ wz).mono ?_
  rintro e wy ⟨rfl, rfl⟩
  go_wp2_with fail
  refine HN.out.mono ?_
  rintro e w2 ⟨rfl, hf2, hg2⟩
  have HG2 := Lib.hid (HF1.out.2.trans hg2)
  have HT2 := Lib.hid (take_ok g A n c b lim v (at_ + 3 + 1) st text 6 w2 hf2 (by have := HB.out.1; omega))
  rw [show ((6 : Nat) : Int) = 6 from rfl] at HT2
  clear hf2 hg2 HN HF1 HI
  go_wp2_with fail
  refine (gzmust_ok 2 _ w2).mono ?_
  rintro e wx ⟨rfl, rfl⟩
  go_wp2_with fail
  refine HT2.out.mono ?_
  rintro e w3 ⟨A3, c3, rfl, hr3, hm3, hf3, hg3⟩
  have HF3 := Lib.hid (And.intro hf3 (HG2.out.trans hg3))
  clear hr3 hm3 hf3 hg3 HT2 HG2
  go_wp2_with fail
  go_end0
  exact ⟨rfl, HF3.out⟩
end Go.Proofs.YtpnnlhegncbfaaaGreatDoor
