/- Contracts of Unpack, of what the laws ask of errors, of the laws' fixed fact; the law GzipBack. -/
import Derived.Test.YtpnnlhegncbfaaaGreatDoorGzr
namespace Go.Proofs.YtpnnlhegncbfaaaGreatDoor
set_option maxRecDepth 20000
open Go.RowKit

theorem known_gz : gzP [] 1 = [31, 139, 8, 0, 0, 0, 0, 0, 0, 255, 3, 0, 0, 0, 0, 0, 0, 0, 0, 0] := by decide +kernel
set_option maxHeartbeats 1000000 in
theorem alive_gz (w : World) (ht : Tabs w) : Calls Tryz.prog 6 #[] w fun e w' => e = .returned (.bool true) ∧ Below w.heap.size w w' := by
  have HP := Lib.hid (gpack_any none 0 0 [] 1 w ⟨rfl, fun h => absurd h (by decide)⟩ (fun _ => rfl) (by decide) (Nat.le_refl _) (by decide) ht)
  rw [known_gz] at HP
  clear ht
  go_enter Tryz.func6, Tryz.ntmps6
  go_wp2_with fail
  refine HP.out.mono ?_
  rintro e w1 ⟨v, rfl, ho, hb⟩
  obtain ⟨A1, c1, hv⟩ := ho.slice
  have hv : v = .slice A1 20 c1 := hv
  subst hv
  have HI := Lib.hid (gis_yes A1 20 c1 _ w1 ho.rd.2 (own_le ho) rfl)
  obtain ⟨b, o, hA, _, hc⟩ := ho.rd.2.2 (by decide)
  subst hA
  have c9 : w1.cell? ⟨b, o + 9, none⟩ = some (.int .u8 255) := hc 9 _ rfl
  have c10 : w1.cell? ⟨b, o + 10, none⟩ = some (.int .u8 3) := hc 10 _ rfl
  have HB := Lib.hid hb
  clear ho hb hc HP
  go_wp2_with fail
  refine HI.out.mono ?_
  rintro e wz ⟨rfl, rfl⟩
  go_wp2_with fail
  go_ret
  exact ⟨rfl, HB.out⟩

set_option maxHeartbeats 400000 in
theorem is_yes (k : Nat) (w : World) (hk : k = 3 ∨ k = 6 ∨ k = 12) : Calls Tryz.prog 14 #[.iface 39 (.int .i64 (k : Int)), .int .i64 (k : Int)] w fun e w' => e = .returned (.bool true) ∧ w' = w := by
  have HN := Lib.hid (num_any k w)
  rcases hk with rfl | rfl | rfl
  all_goals
    rw [show errV _ = .iface 39 (.int .i64 _) from rfl] at HN
    go_enter Tryz.func14, Tryz.ntmps14
    go_wp2_with fail
    refine HN.out.mono ?_
    rintro e wz ⟨rfl, rfl⟩
    go_wp2_with fail
    go_ret
    exact ⟨rfl, rfl⟩
/-- What Unpack leaves. -/
def UpM (w : World) (P : ResG → Prop) (e : Ending) (w' : World) : Prop :=
  Below w.heap.size w w' ∧
    ((∃ k, P (.error k) ∧ e = .returned (.tuple #[.slice none 0 0, .iface 39 (.int .i64 (k : Int))])) ∨
     (∃ u t st, P (.ok (t, st)) ∧ e = .returned (.tuple #[u, .nilIface]) ∧ Own w' w.heap.size u t))
set_option maxHeartbeats 1000000 in
theorem unpackz (A : Option Addr) (n c : Nat) (x : Int) (P : ResG → Prop) (w : World) (hR : Calls Tryz.prog 15 #[.slice A n c, .int .i64 x] w (RdM w P)) :
    Calls Tryz.prog 7 #[.slice A n c, .int .i64 x] w (UpM w P) := by
  have HR := Lib.hid hR
  clear hR
  go_enter Tryz.func7, Tryz.ntmps7
  go_wp2_with fail
  refine HR.out.mono ?_
  rintro e w1 ⟨hb, ⟨k, hk, rfl⟩ | ⟨A1, n1, c1, x1, u, x3, t, st, hk, rfl, ho⟩⟩
  · have HB := Lib.hid (hb.trans ((below_make (World.grownBy_alloc w1 (.cells #[.slice none 0 0, .int .i64 0, .slice none 0 0, .int .i64 0, .int .i64 0] 43) none)).mono hb.size))
    clear hb HR
    unfold zeroFile
    go_wp2_with fail
    go_ret2
    exact ⟨HB.out, .inl ⟨k, hk, rfl⟩⟩
  · have HB := Lib.hid (And.intro (hb.trans ((below_make (World.grownBy_alloc w1 (.cells #[.slice A1 n1 c1, .int .i64 x1, u, .int .i64 x3, .int .i64 ((st : Nat) : Int)] 43) none)).mono hb.size)) (World.ownsRow.alloc ho (.cells #[.slice A1 n1 c1, .int .i64 x1, u, .int .i64 x3, .int .i64 ((st : Nat) : Int)] 43)))
    have HK := Lib.hid hk
    obtain ⟨Au, cu, rfl⟩ := ho.slice
    clear hb ho hk HR
    go_wp2_with fail
    go_ret2
    exact ⟨HB.out.1, .inr ⟨_, t, st, HK.out, rfl, HB.out.2⟩⟩
end Go.Proofs.YtpnnlhegncbfaaaGreatDoor
