
/- Contract of the packer's stepped. -/
import Derived.Test.YtpnnlhegncbfaaaGreatDoorStp
import Derived.Lib.MinMax
namespace Go.Proofs.YtpnnlhegncbfaaaGreatDoor
set_option maxRecDepth 20000
open Go.RowKit

theorem wrap64_inT (z : Int) (h0 : -9223372036854775808 ≤ z) (h1 : z ≤ 9223372036854775807) : IntKind.i64.wrap z = z := by rw [IntKind.wrap_i64]; omega
/-- A block that the writer's step leaves alone. -/
theorem St.row {w w' : World} {gw : Nat} {v v' : Value} {H : Nat} {cs : Array Value} {t : TypeId} (hS : St w gw v w' v') (hr : Row w H cs t) (h1 : H ≠ gw) (h2 : ∀ b, v.ownBlock = some b → b ≠ H) : Row w' H cs t := by
  unfold Row
  rw [hS.block H hr.lt h1 (fun e => h2 _ e rfl)]
  exact hr
set_option maxHeartbeats 4000000 in
set_option maxRecDepth 10000 in
theorem stepped_any (K g B gw : Nat) (pa pb : Option Addr) (ls : List Nat) (first x fine : Nat) (m : List UInt8) (v : Value) (w : World) (hc : HC w K g ls) (hK : K ≤ w.heap.size) (hs : lenAt ls (sgn first x fine) ≠ 0)
    (hx : x < 40000) (hfi : first ≤ 300) (hf : fine = 1 ∨ fine = 2) (hW : WM w B gw v m) (hB : B ≤ w.heap.size) (hL : m.length ≤ 6999900) :
    Calls Tryz.prog 80 #[pkV gw pa pb, .pointer (some ⟨g, 0, none⟩), .int .i64 (first : Int), .int .i64 (x : Int), .int .i64 (fine : Int)] w fun e w' => e = .returned (.tuple #[]) ∧ ∃ v', WM w' B gw v' (m ++ (bitsO ls (sgn first x fine : Int) ++ lowB (x % 2 ^ fur x fine) (fur x fine))) ∧ St w gw v w' v' := by
  have hg1 := World.grownBy_alloc w (.cells #[.pointer (some ⟨gw, 0, none⟩), .pointer pa, .pointer pb] 100) none
  have HC1 := Lib.hid (hc.grown hK hg1 (fun k hk => by cases hk))
  have HK1 := Lib.hid (Nat.le_trans hK hg1.size)
  have HW1 := Lib.hid (hW.grow hg1)
  have HS1 := Lib.hid (St.none (g := gw) (v := v) hg1)
  have HB1 := Lib.hid (Nat.le_trans hB hg1.size)
  have hR : Row (w.alloc (.cells #[.pointer (some ⟨gw, 0, none⟩), .pointer pa, .pointer pb] 100)) w.heap.size #[.pointer (some ⟨gw, 0, none⟩), .pointer pa, .pointer pb] 100 := heap_alloc_new w _
  have HR := Lib.hid hR
  have HN : RowKit.Hid (w.heap.size ≠ gw ∧ ∀ b, v.ownBlock = some b → b ≠ w.heap.size) := Lib.hid ⟨by have := hW.wr.row.lt; omega, fun b hb => by have := (World.ownsRow.lt hW.wr.own b hb).2; omega⟩
  have HL := Lib.hid hL
  have HSN := Lib.hid hs
  have HLO := Lib.hid hc.low
  have c0 : (w.alloc (.cells #[.pointer (some ⟨gw, 0, none⟩), .pointer pa, .pointer pb] 100)).cell? ⟨w.heap.size, 0, none⟩ = some (.pointer (some ⟨gw, 0, none⟩)) := hR.cell 0
  have c1 : (w.alloc (.cells #[.pointer (some ⟨gw, 0, none⟩), .pointer pa, .pointer pb] 100)).cell? ⟨w.heap.size, 1, none⟩ = some (.pointer pa) := hR.cell 1
  have c2 : (w.alloc (.cells #[.pointer (some ⟨gw, 0, none⟩), .pointer pa, .pointer pb] 100)).cell? ⟨w.heap.size, 2, none⟩ = some (.pointer pb) := hR.cell 2
  have hxm : (x : Int) % 18446744073709551616 = (x : Int) := by omega
  have HBL := Lib.hid (fun w => blen_any x (by omega) w)
  obtain ⟨bl, hbl⟩ : ∃ bl, blen x = bl := ⟨_, rfl⟩
  have hbl16 : bl ≤ 16 := by rw [← hbl]; exact blen_le x
  obtain ⟨f, hfe⟩ : ∃ f, fur x fine = f := ⟨_, rfl⟩
  have hff : f = bl - 1 - fine := by rw [← hfe, ← hbl]; rfl
  have hsg : sgn first x fine = first + f * 2 ^ fine + x / 2 ^ f := by unfold sgn; rw [hfe]
  rw [hfe] at *
  rw [hbl] at HBL
  obtain ⟨SS, hSS⟩ : ∃ SS, sgn first x fine = SS := ⟨_, rfl⟩
  rw [hSS] at HSN hsg ⊢
  have hfi2 : fine ≤ 2 := by omega
  have hf15 : f ≤ 15 := by omega
  obtain ⟨Q, hQ⟩ : ∃ Q, x / 2 ^ f = Q := ⟨_, rfl⟩
  obtain ⟨PP, hP⟩ : ∃ PP, f * 2 ^ fine = PP := ⟨_, rfl⟩
  have hQx : Q ≤ x := by rw [← hQ]; exact Nat.div_le_self _ _
  have hPx : PP ≤ 60 := by
    rw [← hP]
    rcases hf with rfl | rfl <;> omega
  have e0 : max (0 : Int) ((bl : Int) - 1 - (fine : Int)) = (f : Int) := by omega
  have e1 : (x : Int) / 2 ^ f = (Q : Int) := by rw [← hQ]; simp
  have e2 : (f : Int) * 2 ^ fine = (PP : Int) := by rw [← hP]; simp
  obtain ⟨R1, hR1⟩ : ∃ R1, first + PP = R1 := ⟨_, rfl⟩
  have e4 : (first : Int) + (PP : Int) = (R1 : Int) := by omega
  have e5 : (R1 : Int) + (Q : Int) = (SS : Int) := by rw [hsg, hQ, hP]; omega
  have hsb : SS ≤ 60000 := by rw [hsg, hQ, hP]; omega
  have hRb : R1 ≤ 60000 := by omega
  have g1 : IntKind.i64.wrap (PP : Int) = (PP : Int) := wrap64_inT _ (by omega) (by omega)
  have g2 : IntKind.i64.wrap (R1 : Int) = (R1 : Int) := wrap64_inT _ (by omega) (by omega)
  have g3 : IntKind.i64.wrap (SS : Int) = (SS : Int) := wrap64_inT _ (by omega) (by omega)
  clear hQ hP hR1 hsg hff hf hSS hc hK hs hW hB hL hg1 hR hbl hfe
  go_enter Tryz.func80, Tryz.ntmps80
  go_wp2_with fail
  refine (HBL.out _).mono ?_
  rintro e wz ⟨rfl, rfl⟩
  go_wp2_with fail
  have HSG := Lib.hid (sign_any2 K g B gw pa pb ls SS m v (w.alloc (.cells #[.pointer (some ⟨gw, 0, none⟩), .pointer pa, .pointer pb] 100)).drew (HC1.out.grown HK1.out (grown_drewN _ 1) (fun k hk => by cases hk)) HK1.out HSN.out (HW1.out.grow (grown_drewN _ 1)) HB1.out (by have := HL.out; omega))
  have HSD : RowKit.Hid (St w gw v (w.alloc (.cells #[.pointer (some ⟨gw, 0, none⟩), .pointer pa, .pointer pb] 100)).drew v) := Lib.hid (HS1.out.trans (St.none (g := gw) (v := v) (grown_drewN (w.alloc (.cells #[.pointer (some ⟨gw, 0, none⟩), .pointer pa, .pointer pb] 100)) 1)))
  have HRD : RowKit.Hid (Row (w.alloc (.cells #[.pointer (some ⟨gw, 0, none⟩), .pointer pa, .pointer pb] 100)).drew w.heap.size #[.pointer (some ⟨gw, 0, none⟩), .pointer pa, .pointer pb] 100) := Lib.hid HR.out
  have HBW : RowKit.Hid (B ≤ (w.alloc (.cells #[.pointer (some ⟨gw, 0, none⟩), .pointer pa, .pointer pb] 100)).drew.heap.size) := Lib.hid HB1.out
  have k0 : (w.alloc (.cells #[.pointer (some ⟨gw, 0, none⟩), .pointer pa, .pointer pb] 100)).drew.cell? ⟨w.heap.size, 0, none⟩ = some (.pointer (some ⟨gw, 0, none⟩)) := c0
  have k1 : (w.alloc (.cells #[.pointer (some ⟨gw, 0, none⟩), .pointer pa, .pointer pb] 100)).drew.cell? ⟨w.heap.size, 1, none⟩ = some (.pointer pa) := c1
  have k2 : (w.alloc (.cells #[.pointer (some ⟨gw, 0, none⟩), .pointer pa, .pointer pb] 100)).drew.cell? ⟨w.heap.size, 2, none⟩ = some (.pointer pb) := c2
  clear c0 c1 c2 e0 hxm
  refine wp_region_any (by kernel_rfl) ?_
  change wpAny _ _ _ _ _ _ _ (World.drew _)
  generalize (w.alloc (.cells #[.pointer (some ⟨gw, 0, none⟩), .pointer pa, .pointer pb] 100)).drew = w2 at HSG HSD HRD HBW k0 k1 k2 ⊢
  refine wpAny_take (i := 1) (v := ?_) rfl (by kernel_rfl) (by kernel_rfl) (by kernel_rfl) (fun _ _ _ h => h) (Or.inl ⟨by rfl, ?_⟩) ?_
  rotate_left
  · intro w
    go_simp
    try with_reducible rfl
  refine wpAny_take (i := 2) (v := ?_) rfl (by kernel_rfl) (by kernel_rfl) (by kernel_rfl) (fun _ _ _ h => h) (Or.inl ⟨by rfl, ?_⟩) ?_
  rotate_left
  · intro w
    go_simp
    try with_reducible rfl
  refine wpAny_take (i := 3) (v := ?_) rfl (by kernel_rfl) (by kernel_rfl) (by kernel_rfl) (fun _ _ _ h => h) (Or.inl ⟨by rfl, ?_⟩) ?_
  rotate_left
  · intro w
    go_simp
    try with_reducible rfl
  refine wpAny_take (i := 4) (v := ?_) rfl (by kernel_rfl) (by kernel_rfl) (by kernel_rfl) (fun _ _ _ h => h) (Or.inl ⟨by rfl, ?_⟩) ?_
  rotate_left
  · intro w
    go_simp
    try with_reducible rfl
  refine wpAny_take (i := 5) (v := ?_) rfl (by kernel_rfl) (by kernel_rfl) (by kernel_rfl) (fun _ _ _ h => h) (Or.inl ⟨by rfl, ?_⟩) ?_
  rotate_left
  · intro w
    go_simp
    try with_reducible rfl
  refine wpAny_take (i := 6) (v := ?_) rfl (by kernel_rfl) (by kernel_rfl) (by kernel_rfl) (fun _ _ _ h => h) (Or.inl ⟨by rfl, ?_⟩) ?_
  rotate_left
  · intro w
    go_simp
    try with_reducible rfl
  refine wpAny_take (i := 7) (v := ?_) rfl (by kernel_rfl) (by kernel_rfl) (by kernel_rfl) (fun _ _ _ h => h) (Or.inl ⟨by rfl, ?_⟩) ?_
  rotate_left
  · intro w
    go_simp
    try with_reducible rfl
  refine wpAny_take (i := 8) (v := ?_) rfl (by kernel_rfl) (by kernel_rfl) (by kernel_rfl) (fun _ _ _ h => h) (Or.inl ⟨by rfl, ?_⟩) ?_
  rotate_left
  · intro w
    go_simp
    try with_reducible rfl
  refine wpAny_take (i := 9) (v := ?_) rfl (by kernel_rfl) (by kernel_rfl) (by kernel_rfl) (fun _ _ _ h => h) (Or.inl ⟨by rfl, ?_⟩) ?_
  rotate_left
  · intro w
    go_simp
    try with_reducible rfl
  refine wpAny_take (i := 10) (v := ?_) rfl (by kernel_rfl) (by kernel_rfl) (by kernel_rfl) (fun _ _ _ h => h) (Or.inl ⟨by rfl, ?_⟩) ?_
  rotate_left
  · intro w
    go_simp
    try with_reducible rfl
  refine wpAny_ready (rs := [0]) (by kernel_rfl) (by simp) ?_
  refine AllReady.cons rfl (fun K hK => ?_) AllReady.nil
  go_simp
  refine hK _ _ ?_
  clear hK K
  refine wpAny_ready (rs := [11]) (by kernel_rfl) (by simp) ?_
  refine AllReady.cons rfl (fun K hK => ?_) AllReady.nil
  go_simp
  go_wp2_with fail
  refine HSG.out.mono ?_
  rintro e w3 ⟨rfl, v3, hW3, hS3⟩
  have hr3 := hS3.row HRD.out HN.out.1 HN.out.2
  have HW3 := Lib.hid hW3
  have HS3 := Lib.hid (HSD.out.trans hS3)
  have HB3 : RowKit.Hid (B ≤ w3.heap.size) := Lib.hid (Nat.le_trans HBW.out hS3.size)
  have q0 : w3.drew.cell? ⟨w.heap.size, 0, none⟩ = some (.pointer (some ⟨gw, 0, none⟩)) := hr3.cell 0
  have q1 : w3.drew.cell? ⟨w.heap.size, 1, none⟩ = some (.pointer pa) := hr3.cell 1
  have q2 : w3.drew.cell? ⟨w.heap.size, 2, none⟩ = some (.pointer pb) := hr3.cell 2
  clear hW3 hS3 hr3 k0 k1 k2 HSG
  go_simp
  refine hK _ _ ?_
  clear hK K
  refine wpAny_done (by kernel_rfl) ?_ _
  have HNM := Lib.hid (number_any2 gw B pa pb (x % 2 ^ f) f (m ++ bitsO ls (SS : Int)) v3 w3.drew (HW3.out.grow (grown_drewN _ 1)) HB3.out (by omega) (Nat.mod_lt _ (Nat.two_pow_pos _)) (by have h1 := HL.out; have h2 := lenI_bound HLO.out (SS : Int); rw [List.length_append, bitsO_length]; omega))
  have HSD3 : RowKit.Hid (St w gw v w3.drew v3) := Lib.hid (HS3.out.trans (St.none (g := gw) (v := v3) (grown_drewN w3 1)))
  obtain ⟨pw, hpw⟩ : ∃ pw, 2 ^ f = pw := ⟨_, rfl⟩
  have hpw1 : 1 ≤ pw := by rw [← hpw]; exact Nat.two_pow_pos f
  have hpw2 : pw ≤ 32768 := by rw [← hpw]; exact Nat.pow_le_pow_right (by decide) hf15
  have e6 : (2 : Int) ^ f = (pw : Int) := by rw [← hpw]; simp
  have g4 : IntKind.i64.wrap (pw : Int) = (pw : Int) := wrap64_inT _ (by omega) (by omega)
  have g5 : IntKind.i64.wrap ((pw : Int) - 1) = (pw : Int) - 1 := wrap64_inT _ (by omega) (by omega)
  have e3 : bits .and .i64 (x : Int) ((pw : Int) - 1) = ((x % pw : Nat) : Int) := by rw [← e6, ← hpw]; exact and_low x _ (by omega) (by omega)
  obtain ⟨xr, hxr⟩ : ∃ xr, x % pw = xr := ⟨_, rfl⟩
  have HXR : RowKit.Hid (x % 2 ^ f = xr) := Lib.hid (by rw [hpw, hxr])
  rw [hpw, hxr] at HNM
  rw [hxr] at e3
  clear hpw hxr e1 e2 e4 e5
  go_wp2_with fail
  refine wp_region_any (by kernel_rfl) ?_
  change wpAny _ _ _ _ _ _ _ (World.drew _)
  generalize w3.drew = w4 at HNM HSD3 q0 q1 q2 ⊢
  refine wpAny_take (i := 1) (v := ?_) rfl (by kernel_rfl) (by kernel_rfl) (by kernel_rfl) (fun _ _ _ h => h) (Or.inl ⟨by rfl, ?_⟩) ?_
  rotate_left
  · intro w
    go_simp
    try with_reducible rfl
  refine wpAny_take (i := 2) (v := ?_) rfl (by kernel_rfl) (by kernel_rfl) (by kernel_rfl) (fun _ _ _ h => h) (Or.inl ⟨by rfl, ?_⟩) ?_
  rotate_left
  · intro w
    go_simp
    try with_reducible rfl
  refine wpAny_take (i := 3) (v := ?_) rfl (by kernel_rfl) (by kernel_rfl) (by kernel_rfl) (fun _ _ _ h => h) (Or.inl ⟨by rfl, ?_⟩) ?_
  rotate_left
  · intro w
    go_simp
    try with_reducible rfl
  refine wpAny_take (i := 4) (v := ?_) rfl (by kernel_rfl) (by kernel_rfl) (by kernel_rfl) (fun _ _ _ h => h) (Or.inl ⟨by rfl, ?_⟩) ?_
  rotate_left
  · intro w
    go_simp
    try with_reducible rfl
  refine wpAny_take (i := 5) (v := ?_) rfl (by kernel_rfl) (by kernel_rfl) (by kernel_rfl) (fun _ _ _ h => h) (Or.inl ⟨by rfl, ?_⟩) ?_
  rotate_left
  · intro w
    go_simp
    try with_reducible rfl
  refine wpAny_take (i := 6) (v := ?_) rfl (by kernel_rfl) (by kernel_rfl) (by kernel_rfl) (fun _ _ _ h => h) (Or.inl ⟨by rfl, ?_⟩) ?_
  rotate_left
  · intro w
    go_simp
    try with_reducible rfl
  refine wpAny_ready (rs := [0]) (by kernel_rfl) (by simp) ?_
  refine AllReady.cons rfl (fun K hK => ?_) AllReady.nil
  go_simp
  refine hK _ _ ?_
  clear hK K
  refine wpAny_ready (rs := [7]) (by kernel_rfl) (by simp) ?_
  refine AllReady.cons rfl (fun K hK => ?_) AllReady.nil
  go_simp
  go_wp2_with fail
  refine HNM.out.mono ?_
  rintro e w5 ⟨rfl, v5, hW5, hS5⟩
  have HW5 := Lib.hid hW5
  have HS5 := Lib.hid (HSD3.out.trans hS5)
  clear hW5 hS5 q0 q1 q2 HNM
  go_simp
  refine hK _ _ ?_
  clear hK K
  refine wpAny_done (by kernel_rfl) ?_ _
  go_wp2_with fail
  go_end0
  exact ⟨rfl, v5, by rw [HXR.out, ← List.append_assoc]; exact HW5.out, HS5.out⟩
end Go.Proofs.YtpnnlhegncbfaaaGreatDoor
