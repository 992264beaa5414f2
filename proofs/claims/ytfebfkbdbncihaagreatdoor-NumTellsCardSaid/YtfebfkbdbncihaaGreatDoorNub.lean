/- Contract of power. -/
import Derived.Test.YtfebfkbdbncihaaGreatDoorNua
import Derived.Lib.ConvBytes
import Derived.Lib.MinMax
namespace Go.Proofs.YtfebfkbdbncihaaGreatDoor
set_option maxRecDepth 20000
open Go.RowKit

theorem below_bytes (w : World) (s : ByteArray) : Below w.heap.size w (Lib.bytesWorld w 5 s) :=
  ⟨rfl, rfl, rfl, by rw [Lib.bytesWorld_size]; omega, fun k hk => Lib.bytesWorld_at_old w 5 s k hk⟩
theorem rd_bytes (w : World) (s : ByteArray) : Rd (Lib.bytesWorld w 5 s) (Lib.bytesWorld w 5 s).heap.size (some ⟨w.heap.size, 0, none⟩) s.size (us s.data.toList) := by
  refine ⟨by simp [us], fun _ => ⟨w.heap.size, 0, rfl, by rw [Lib.bytesWorld_size]; omega, fun j u hu => ?_⟩⟩
  have hj : j < s.size := by have := (List.getElem?_eq_some_iff.1 hu).1; simpa [us] using this
  rw [Nat.zero_add, Lib.bytesWorld_cell w 5 s j hj, ← hu]
  have hj' : j < s.data.toList.length := by simpa using hj
  simp only [us, List.getElem?_map, List.getElem?_eq_getElem hj', Option.map_some, List.getD, Option.getD_some]
theorem Rd.laid (w : World) (cs : Array Value) (fr : Nat × Nat) (l : List UInt8) (n : Nat) (h : cs.toList = us l) (hn : l.length = n) :
    Rd (w.alloc (.cells cs 5 fr)) (w.alloc (.cells cs 5 fr)).heap.size (some ⟨w.heap.size, 0, none⟩) n (us l) := by
  refine ⟨by rw [us_length, hn], fun _ => ⟨w.heap.size, 0, rfl, by simp, fun j u hu => ?_⟩⟩
  have hc : ∀ j u, cs.toList[j]? = some u → (w.alloc (.cells cs 5 fr)).cell? ((⟨w.heap.size, 0, none⟩ : Addr).add j) = some u := World.news_of_block (fr := fr) (by exact heap_alloc_new w _)
  have := hc j u (by rw [h]; exact hu)
  rw [Go.WideShapes.add_plain] at this
  exact this
theorem conv_bytes (w : World) (s : ByteArray) : (convert 9 99 (.string s)).run Tryz.prog w = .ok (.slice (some ⟨w.heap.size, 0, none⟩) s.size (grownCap w s.size 0 5)) (Lib.bytesWorld w 5 s) :=
  Lib.run_convert_string_bytes w 9 99 5 s Tryz.underlying9 Tryz.underlying99 Tryz.underlying5

theorem below_drewN (w : World) (k : Nat) : Below w.heap.size w (w.drewN k) := below_make (grown_drewN w k)
theorem isEmpty_toList (l : List UInt8) : ((tx l).toList == []) = l.isEmpty := by rw [tx_toList]; cases l <;> rfl
/-- What power leaves. -/
def PwM (w : World) (s : List UInt8) (e : Ending) (w' : World) : Prop :=
  e = .returned (.tuple #[.int .i64 (if powOk s then powZ s.tail else 0), .bool (powOk s)]) ∧ Below w.heap.size w w'
theorem powOk_no (a : UInt8) (t : List UInt8) (h1 : a ≠ 101) (h2 : a ≠ 69) : powOk (a :: t) = false := by
  show ((a == 101 || a == 69) && !(figs (powT t)).isEmpty && (rest (powT t)).isEmpty) = false
  rw [beq_eq_false_iff_ne.2 h1, beq_eq_false_iff_ne.2 h2]; rfl
theorem powOk_yes (a : UInt8) (t : List UInt8) (h : a = 101 ∨ a = 69) : powOk (a :: t) = (!(figs (powT t)).isEmpty && (rest (powT t)).isEmpty) := by
  show ((a == 101 || a == 69) && !(figs (powT t)).isEmpty && (rest (powT t)).isEmpty) = _
  have : (a == 101 || a == 69) = true := by rcases h with rfl | rfl <;> rfl
  rw [this, Bool.true_and]
set_option maxHeartbeats 1000000 in
theorem power_yes (a : UInt8) (t : List UInt8) (w : World) (hl : t.length ≤ 100000) (ha : a = 101 ∨ a = 69) : Calls Tryz.prog 52 #[.string (tx (a :: t))] w (PwM w (a :: t)) := by
  have hi := idx (a :: t) 0 a rfl
  rw [Int.natCast_zero] at hi
  have hs : (tx (a :: t)).size = t.length + 1 := tx_size _
  have he : (tx (a :: t)).extract 1 (t.length + 1) = tx t := by
    have := tx_extract (a :: t) 1 (t.length + 1)
    rwa [show (a :: t).take (t.length + 1) = a :: t by rw [List.take_of_length_le (by simp)]] at this
  have HC := Lib.hid (cutp_any 45 t)
  have HT := Lib.hid (trimp_any 43 (cutR 45 t))
  have hPl : (powT t).length ≤ t.length := by
    unfold powT; split
    · exact cutR_le _ _
    · exact Nat.le_trans (cutR_le _ _) (cutR_le _ _)
  have HF := Lib.hid (fun w => figures_any (powT t) w (by omega))
  have HK := Lib.hid (powOk_yes a t ha)
  have HLe : RowKit.Hid ((figs (powT t)).length ≤ 100000) := Lib.hid (Nat.le_trans (figs_le _) (by omega))
  have HD := Lib.hid (figs_dig (powT t))
  have ha1 : (a.toNat : Int) = 101 ∨ (a.toNat : Int) = 69 := by rcases ha with rfl | rfl; exact .inl rfl; exact .inr rfl
  have HZ : RowKit.Hid (powZ t = if cutB 45 t then -(powN (figs (powT t)) : Int) else (powN (figs (powT t)) : Int)) := Lib.hid rfl
  have HPT : RowKit.Hid (powT t = if cutB 45 t then cutR 45 t else cutR 43 (cutR 45 t)) := Lib.hid rfl
  clear ha
  generalize tx (a :: t) = s at hi hs he ⊢
  generalize (a.toNat : Int) = m at hi ha1
  cases hm : cutB 45 t
  all_goals
    rw [hm] at HC HZ HPT
    first
      | rw [if_neg (by decide)] at HZ HPT
      | rw [if_pos rfl] at HZ HPT
    first
      | rw [← HPT.out] at HC
      | rw [← HPT.out] at HT
    generalize figs (powT t) = F at HF HK HLe HD HZ
    generalize rest (powT t) = R at HF HK
    generalize powT t = P at HF HC HT
    rcases ha1 with rfl | rfl
    all_goals
      cases hF : F.isEmpty
      · cases hR : R.isEmpty
        · rw [hF, hR] at HK
          have hF1 : (tx F).toList.isEmpty = false := by rw [tx_toList]; exact hF
          have hF2 : ¬ (tx F).toList = [] := by rw [tx_toList]; intro e; rw [e] at hF; cases hF
          have hR1 : (tx R).toList.isEmpty = false := by rw [tx_toList]; exact hR
          have hc := conv_bytes
          have HFs : RowKit.Hid ((tx F).size = F.length ∧ (tx F).data.toList = F) := Lib.hid ⟨tx_size F, tx_data F⟩
          clear hF hR
          generalize tx F = sf at hF1 hF2 HF HFs
          generalize tx R = sr at hR1 HF
          go_enter Tryz.func52, Tryz.ntmps52
          go_wp2_with (first | (go_at_call 50; refine (HC.out _).mono ?_; rintro e w1 ⟨rfl, rfl⟩) | (go_at_call 80; refine (HT.out _).mono ?_; rintro e w2 ⟨rfl, rfl⟩) | (go_at_call 51; refine (HF.out _).mono ?_; rintro e w3 ⟨rfl, k, rfl⟩))
          go_ret2
          exact ⟨by rw [HK.out]; rfl, below_drewN _ _⟩
        · rw [hF, hR] at HK
          have hF1 : (tx F).toList.isEmpty = false := by rw [tx_toList]; exact hF
          have hF2 : ¬ (tx F).toList = [] := by rw [tx_toList]; intro e; rw [e] at hF; cases hF
          have hR1 : (tx R).toList.isEmpty = true := by rw [tx_toList]; exact hR
          have hc := conv_bytes
          have HFs : RowKit.Hid ((tx F).size = F.length ∧ (tx F).data.toList = F) := Lib.hid ⟨tx_size F, tx_data F⟩
          clear hF hR
          generalize tx F = sf at hF1 hF2 HF HFs
          generalize tx R = sr at hR1 HF
          go_enter Tryz.func52, Tryz.ntmps52
          go_wp2_with (first | (go_at_call 50; refine (HC.out _).mono ?_; rintro e w1 ⟨rfl, rfl⟩) | (go_at_call 80; refine (HT.out _).mono ?_; rintro e w2 ⟨rfl, rfl⟩) | (go_at_call 51; refine (HF.out _).mono ?_; rintro e w3 ⟨rfl, k, rfl⟩))
          have hb := (below_drewN w k).trans ((below_bytes (w.drewN k) sf).mono (Nat.le_refl _))
          have hr := rd_bytes (w.drewN k) sf
          rw [HFs.out.1, HFs.out.2, show (w.drewN k).heap.size = w.heap.size from rfl] at hr
          have hsz : sf.size = F.length := HFs.out.1
          have HB := Lib.hid (And.intro hb hr)
          clear hb hr
          generalize Lib.bytesWorld (w.drewN k) 5 sf = w4 at HB ⊢
          rw [hsz]
          obtain ⟨fl, hfl⟩ : ∃ fl, F.length = fl := ⟨_, rfl⟩
          rw [hfl] at HB ⊢
          have HFL := Lib.hid hfl
          have hfm : fl ≤ 100000 := by rw [← hfl]; exact HLe.out
          clear hfl hsz
          go_loop [7, 42] (fun n i => ∃ k : Nat, i = .int .i64 (k : Int) ∧ k ≤ fl ∧ n = .int .i64 (powN (F.take k) : Int)) (fun _ i => fl - (intOf i).toNat)
          case atStart => exact ⟨0, rfl, Nat.zero_le _, rfl⟩
          case round =>
            obtain ⟨j, rfl, hj, rfl⟩ := hrel
            have hp := powN_le (F.take j)
            by_cases hlt : j < fl
            · obtain ⟨q, o, x, hA, hq, hx, hcl⟩ := HB.out.2.at8 hlt
              have hxd := HD.out x (List.mem_of_getElem? hx)
              have HM := Lib.hid (powN_more hx)
              injection hA with hA
              injection hA with hA1 hA2
              rw [← hA1, ← hA2, Nat.zero_add] at hcl
              unfold dig at hxd
              rw [Bool.and_eq_true] at hxd
              have x1 := of_decide_eq_true hxd.1
              have x2 := of_decide_eq_true hxd.2
              unfold powS at HM
              generalize powN (F.take j) = n at hp HM ⊢
              generalize x.toNat = m at x1 x2 HM hcl
              clear hx hxd hq hA1 hA2
              go_wp2_with fail
              go_round
              case rel => exact ⟨j + 1, by go_num, by omega, by rw [HM.out]; congr 1; omega⟩
              case measure => simp [intOf]; omega
            · have hje : j = fl := by omega
              subst hje
              have HE : RowKit.Hid (powN (F.take j) = powN F) := Lib.hid (by rw [List.take_of_length_le (by rw [HFL.out]; exact Nat.le_refl _)])
              have HE2 := Lib.hid HE.out.symm
              generalize powN (F.take j) = n at hp HE ⊢
              clear hj hlt
              go_wp2_with fail
              go_ret2
              refine ⟨?_, HB.out.1⟩
              rw [HK.out]
              show _ = Ending.returned (.tuple #[.int .i64 (powZ t), .bool true])
              rw [HZ.out, ← HE.out]
              go_num
      · rw [hF] at HK
        have hF2 : (tx F).toList = [] := by rw [tx_toList]; simpa using hF
        clear hF
        generalize tx F = sf at hF2 HF
        generalize tx R = sr at HF
        go_enter Tryz.func52, Tryz.ntmps52
        go_wp2_with (first | (go_at_call 50; refine (HC.out _).mono ?_; rintro e w1 ⟨rfl, rfl⟩) | (go_at_call 80; refine (HT.out _).mono ?_; rintro e w2 ⟨rfl, rfl⟩) | (go_at_call 51; refine (HF.out _).mono ?_; rintro e w3 ⟨rfl, k, rfl⟩))
        go_ret2
        exact ⟨by rw [HK.out]; rfl, below_drewN _ _⟩
set_option maxHeartbeats 1000000 in
theorem power_any (a : UInt8) (t : List UInt8) (w : World) (hl : t.length ≤ 100000) : Calls Tryz.prog 52 #[.string (tx (a :: t))] w (PwM w (a :: t)) := by
  by_cases h1 : a = 101
  · exact power_yes a t w hl (.inl h1)
  · by_cases h2 : a = 69
    · exact power_yes a t w hl (.inr h2)
    · have hf : powOk (a :: t) = false := powOk_no a t h1 h2
      have hi := idx (a :: t) 0 a rfl
      rw [Int.natCast_zero] at hi
      have hs : (tx (a :: t)).size = t.length + 1 := tx_size _
      have n1 : ((a.toNat : Int) != 101) = true := by rw [bne_iff_ne]; intro e; exact h1 (UInt8.toNat_inj.1 (by show a.toNat = 101; omega))
      have n2 : ((a.toNat : Int) != 69) = true := by rw [bne_iff_ne]; intro e; exact h2 (UInt8.toNat_inj.1 (by show a.toNat = 69; omega))
      have n3 : ¬ (a.toNat : Int) = 101 := by intro e; exact h1 (UInt8.toNat_inj.1 (by show a.toNat = 101; omega))
      have HF := Lib.hid hf
      clear h1 h2 hf
      generalize tx (a :: t) = s at hi hs ⊢
      generalize (a.toNat : Int) = m at hi n1 n2 n3
      go_enter Tryz.func52, Tryz.ntmps52
      go_wp2_with fail
      go_ret2
      exact ⟨by rw [HF.out]; rfl, Below.refl _ _⟩
end Go.Proofs.YtfebfkbdbncihaaGreatDoor
