/- Contract of the player's run. -/
import Derived.Test.YtmjpdncgapbfpaaPlay
namespace Go.Proofs.Ytmjpdncgapbfpaa
open Go.RowKit

structure LRel (B p : Nat) (A : Option Addr) (n c : Nat) (ops : List Sc) (nv : Value) (N : List Nt) (w : World) (f i : Nat) (j g : Nat) (nv1 : Value) (M : List Nt) (wr : World) : Prop where
  ps : PS wr B p A n c ops j nv1 (N ++ M)
  fr : Fr p nv w wr
  mv : Moved nv nv1 w
  jn : j ≤ n
  gf : g ≤ f
  fuel : (ops.drop j).length ≤ g
  eq : rn f (ops.drop i) = (M ++ (rn g (ops.drop j)).1, (rn g (ops.drop j)).2)
  small : (N ++ M).length + (ops.drop j).length ≤ 60

section
variable {w w' : World} {B p : Nat} {A : Option Addr} {n c : Nat} {ops : List Sc} {i : Nat} {nv v' : Value} {L : List Nt}
theorem PS.noteCell (h : PS w B p A n c ops i nv L) (hg : w.grownBy w' nv.ownBlock) : w'.cell? ⟨p, 2, none⟩ = some nv ∧ w'.frozen? ⟨p, 2, none⟩ = false := by
  have hpn : some p ≠ nv.ownBlock := fun e => by have := (h.own.lt e.symm).1; have := h.lt; omega
  have hb := hg.block p (Nat.lt_of_lt_of_le h.lt h.hB) hpn
  exact ⟨(World.cell?_of_block (w := w) (a := ⟨p, 2, none⟩) hb).trans h.cN, (World.frozen?_of_block (w := w) (a := ⟨p, 2, none⟩) hb).trans h.f2⟩

theorem PS.push (h : PS w B p A n c ops i nv L) {b : Nt} (ho : OwnN w' B v' (L ++ [b])) (hg : w.grownBy w' nv.ownBlock) : PS (w'.setCell ⟨p, 2, none⟩ v') B p A n c ops i v' (L ++ [b]) := by
  have hlt := h.lt
  have hpn : some p ≠ nv.ownBlock := fun e => by have := (h.own.lt e.symm).1; omega
  have hb := hg.block p (Nat.lt_of_lt_of_le h.lt h.hB) hpn
  have hc : ∀ o, w'.cell? ⟨p, o, none⟩ = w.cell? ⟨p, o, none⟩ := fun o => World.cell?_of_block (w := w) (a := ⟨p, o, none⟩) hb
  have hf : ∀ o, w'.frozen? ⟨p, o, none⟩ = w.frozen? ⟨p, o, none⟩ := fun o => World.frozen?_of_block (w := w) (a := ⟨p, o, none⟩) hb
  refine ⟨?_, ?_, World.cell?_setCell_same _ _ _ ((hc 2).trans h.cN), by rw [World.frozen?_setCell, hf]; exact h.f1, by rw [World.frozen?_setCell, hf]; exact h.f2, ?_, ?_, h.lt, ?_, h.ne⟩
  · rw [World.cell?_setCell_other _ _ _ _ (by intro e; cases e), hc]; exact h.cO
  · rw [World.cell?_setCell_other _ _ _ _ (by intro e; cases e), hc]; exact h.cA
  · refine ho.far ?_ v'
    intro e
    have := (ho.lt e.symm).1
    simp at this
    omega
  · refine ⟨h.rd.1, fun hn => ?_⟩
    obtain ⟨g, o, rfl, hg', hcc⟩ := h.rd.2 hn
    have hne := h.ne g o rfl
    have hgn : some g ≠ nv.ownBlock := fun e => by have := (h.own.lt e.symm).1; omega
    have hbg := hg.block g (Nat.lt_of_lt_of_le hg' h.hB) hgn
    have hcg : ∀ q, (w'.setCell ⟨p, 2, none⟩ v').cell? ⟨g, q, none⟩ = w.cell? ⟨g, q, none⟩ := fun q => by
      rw [World.cell?_setCell_other _ _ _ _ (by intro e; have := congrArg Addr.block e; simp at this; omega)]
      exact World.cell?_of_block (w := w) (a := ⟨g, q, none⟩) hbg
    exact ⟨g, o, rfl, hg', fun k x hx => by rw [hcg, hcg, hcg]; exact hcc k x hx⟩
  · have := hg.size; have := h.hB; simp [World.setCell]; omega

theorem moved_push (h : v'.ownBlock = nv.ownBlock ∨ v'.ownBlock = some (w.heap.size + 1)) : Moved nv v' w := by
  rcases h with h | h
  · exact .inl h
  · exact .inr ⟨_, h, by omega⟩
end

theorem LRel.go {B p : Nat} {A : Option Addr} {n c : Nat} {ops : List Sc} {nv : Value} {N : List Nt} {w : World} {f i j g : Nat} {nv1 : Value} {M : List Nt} {wr : World} (h : LRel B p A n c ops nv N w f i j g nv1 M wr) {j' g' : Nat} {K : List Nt} {nv2 : Value} {w' : World}
    (he : rn g (ops.drop j) = (K ++ (rn g' (ops.drop j')).1, (rn g' (ops.drop j')).2)) (hp : PS w' B p A n c ops j' nv2 (N ++ M ++ K)) (hf : Fr p nv w w') (hm : Moved nv nv2 w) (hj : j' ≤ n) (hg : g' ≤ g) (hl : (ops.drop j').length ≤ g') (hs : K.length + (ops.drop j').length ≤ (ops.drop j).length) :
    LRel B p A n c ops nv N w f i j' g' nv2 (M ++ K) w' := by
  refine ⟨by rw [← List.append_assoc]; exact hp, hf, hm, hj, Nat.le_trans hg h.gf, hl, ?_, ?_⟩
  · rw [h.eq, he]; simp
  · have := h.small
    rw [List.length_append, List.length_append]
    rw [List.length_append] at this
    omega

theorem LRel.less {B p : Nat} {A : Option Addr} {n c : Nat} {ops : List Sc} {j j' : Nat} {nv1 nv2 : Value} {L L' : List Nt} {wr w' : World} (h : PS wr B p A n c ops j nv1 L) (h' : PS w' B p A n c ops j' nv2 L') (hj : j < j') (hn : j' ≤ n) :
    (match w'.cell? ⟨p, 1, none⟩ with | some (.int _ q) => n - q.toNat | _ => 0) < (match wr.cell? ⟨p, 1, none⟩ with | some (.int _ q) => n - q.toNat | _ => 0) := by
  rw [h.cA, h'.cA]
  simp
  omega

set_option maxHeartbeats 400000 in
theorem fault_nilE (w : World) : Calls Try.prog 12 #[.nilIface] w.drew fun e w' => e = .returned (.agg #[.int .i64 0, .string ⟨#[]⟩, .bool false]) ∧ (w.alloc (.cells #[.int .i64 0, .string ⟨#[]⟩, .bool false] 35)).drew = w' := by
  go_enter Try.func12, Try.ntmps12
  go_wp2_with fail
  exact bodyPost_ret (v := .agg #[.int .i64 0, .string ⟨#[]⟩, .bool false]) (by simp [results, Try.results12, go_sem]) rfl ⟨rfl, rfl⟩

set_option maxHeartbeats 400000 in
theorem fault_someE {b : Nat} {c : Int} {s : ByteArray} {w : World} (hb : b < w.heap.size) (h1 : w.cell? ⟨b, 0, none⟩ = some (.int .i64 c)) (h2 : w.cell? ⟨b, 1, none⟩ = some (.string s)) :
    Calls Try.prog 12 #[.iface 42 (.pointer (some ⟨b, 0, none⟩))] w.drew fun e w' => e = .returned (.agg #[.int .i64 c, .string s, .bool true]) ∧ (w.alloc (.cells #[.int .i64 c, .string s, .bool true] 35)).drew = w' := by
  go_enter Try.func12, Try.ntmps12
  go_wp2_with fail
  refine (code_fault b 0 c _ ?_).mono ?_
  · exact (World.cell?_alloc_old w _ _ (by show b ≠ _; omega)).trans h1
  rintro e w' ⟨rfl, rfl⟩
  go_wp2_with fail
  refine (where_fault b 0 s _ ?_).mono ?_
  · exact (World.cell?_alloc_old w _ _ (by show b ≠ _; omega)).trans h2
  rintro e w' ⟨rfl, rfl⟩
  go_wp2_with fail
  exact bodyPost_ret (v := .agg #[.int .i64 c, .string s, .bool true]) (by simp [results, Try.results12, go_sem]) rfl ⟨rfl, rfl⟩

theorem stepM {ops : Array Oper} {o : Oper} {a : Act} {K : Act → World → Prop} {Q : Exit → Act → World → Prop} {E : Prop} (w0 : World) (H : Nat) (hH : w0.heap.size = H) (hgd : o.guard = none) (s x : Operand)
    (ho : o.op = .call { callee := .builtin .append, args := #[s, x], argTypes := #[28, 28] })
    (B : Nat) (v : Value) (l : List Nt) (b : Nt) (cs : Array Value) (hs : a.eval s = v) (hx : a.eval x = .slice (some ⟨H, 0, none⟩) 1 1)
    (hown : OwnN w0 B v l) (hcs : cs.toList = ntC b) (hB : B ≤ w0.heap.size) (hl : l.length ≤ 10000)
    (h : ∀ v' w', OwnN w' B v' (l ++ [b]) → w0.grownBy w' v.ownBlock → (v'.ownBlock = v.ownBlock ∨ v'.ownBlock = some (w0.heap.size + 1)) → K (a.put o.dst v') w') :
    if Region.wanted o (yielded ops a.tmps) = true then Oper.wp Try.prog o a (w0.alloc (.cells cs 40)).drew K Q else E := by
  subst hH
  exact stepN w0 hgd s x ho B v l b cs hs hx hown hcs hB hl h

set_option maxHeartbeats 8000000 in
set_option maxRecDepth 100000 in
theorem play_step (f : Nat) (ih : ∀ g, g < f → PlaySaid g) : PlaySaid f := by
  intro B p A n c ops i nv N w hp hn hi hk hs hf hl
  have HL := Lib.hid hp.rd.1
  have HP := Lib.hid hp
  have HK := Lib.hid hk
  have HS := Lib.hid hs
  have IH := Lib.hid ih
  clear hp hk hs ih
  go_enter Try.func10, Try.ntmps10
  go_wp2_with fail
  go_loopw [3] (fun _ wr => ∃ (j g : Nat) (nv1 : Value) (M : List Nt), LRel B p A n c ops nv N w f i j g nv1 M wr) (fun _ wr => match wr.cell? ⟨p, 1, none⟩ with | some (.int _ q) => n - q.toNat | _ => 0)
  case atStart => exact ⟨i, f, nv, [], by rw [List.append_nil]; exact HP.out, Fr.refl _ _ _, Moved.refl _ _, hi, Nat.le_refl _, hf, by simp, by simpa using hl⟩
  case round =>
    clear HP
    obtain ⟨j, g, nv1, M, hR⟩ := hrel
    have hjn := hR.jn
    have cO := hR.ps.cO
    have cA := hR.ps.cA
    have f1 := hR.ps.f1
    have hpz : p < wr.heap.size := Nat.lt_of_lt_of_le hR.ps.lt hR.ps.hB
    have HR := Lib.hid hR
    clear hR
    by_cases hlt : j < n
    · obtain ⟨x, hx⟩ : ∃ x, ops[j]? = some x := ⟨_, List.getElem?_eq_getElem (by rw [HL.out]; exact hlt)⟩
      obtain ⟨ob, off, rfl, hob, hc⟩ := HR.out.ps.rd.2 (by omega)
      obtain ⟨c0, c1, c2⟩ := hc j x hx
      have hoz : ob < wr.heap.size := Nat.lt_of_lt_of_le hob HR.out.ps.hB
      have hxk := HK.out x (List.mem_of_getElem? hx)
      have hxt := HS.out x (List.mem_of_getElem? hx)
      obtain ⟨g', rfl⟩ : ∃ g', g = g' + 1 := ⟨g - 1, by
        have := HR.out.fuel
        rw [drop_cons hx] at this
        simp at this
        omega⟩
      have hfu : (ops.drop (j + 1)).length ≤ g' := by
        have := HR.out.fuel
        rw [drop_cons hx] at this
        simpa using this
      have hln : (ops.drop j).length = (ops.drop (j + 1)).length + 1 := by rw [drop_cons hx]; simp
      have HLN := Lib.hid hln
      have HX := Lib.hid hx
      clear hc hx hln
      have d0 : decide ((j : Int) < (n : Int)) = true := by simp; omega
      go_wp2_with fail
      go_quiet (fail)
      have hR2 : LRel B p (some ⟨ob, off, none⟩) n c ops nv N w f i j (g' + 1) nv1 M (wr.drewN nq) := ⟨HR.out.ps.drewN _, HR.out.fr.drewN _, HR.out.mv, HR.out.jn, HR.out.gf, HR.out.fuel, HR.out.eq, HR.out.small⟩
      have c0' : (wr.drewN nq).cell? ⟨ob, off + j * 3, none⟩ = some (.int .i64 (x.k : Int)) := c0
      have c1' : (wr.drewN nq).cell? ⟨ob, off + j * 3 + 1, none⟩ = some (.int .i64 x.c) := c1
      have c2' : (wr.drewN nq).cell? ⟨ob, off + j * 3 + 2, none⟩ = some (.string x.t) := c2
      generalize wr.drewN nq = wq at hR2 c0' c1' c2' ⊢
      have qO := hR2.ps.cO
      have qA := hR2.ps.cA
      have q1 := hR2.ps.f1
      have HR2 := Lib.hid hR2
      have a1 : (wq.alloc (.cells #[.int .i64 0, .int .i64 0, .string ⟨#[]⟩] 26)).cell? ⟨p, 0, none⟩ = some (.slice (some ⟨ob, off, none⟩) n c) := (World.cell?_alloc_lt wq _ _ (World.block_lt_of_cell? _ _ qO)).trans qO
      have a2 : (wq.alloc (.cells #[.int .i64 0, .int .i64 0, .string ⟨#[]⟩] 26)).cell? ⟨p, 1, none⟩ = some (.int .i64 (j : Int)) := (World.cell?_alloc_lt wq _ _ (World.block_lt_of_cell? _ _ qA)).trans qA
      have a3 : (wq.alloc (.cells #[.int .i64 0, .int .i64 0, .string ⟨#[]⟩] 26)).cell? ⟨ob, off + j * 3, none⟩ = some (.int .i64 (x.k : Int)) := (World.cell?_alloc_lt wq _ _ (World.block_lt_of_cell? _ _ c0')).trans c0'
      have a4 : (wq.alloc (.cells #[.int .i64 0, .int .i64 0, .string ⟨#[]⟩] 26)).cell? ⟨ob, off + j * 3 + 1, none⟩ = some (.int .i64 x.c) := (World.cell?_alloc_lt wq _ _ (World.block_lt_of_cell? _ _ c1')).trans c1'
      have a5 : (wq.alloc (.cells #[.int .i64 0, .int .i64 0, .string ⟨#[]⟩] 26)).cell? ⟨ob, off + j * 3 + 2, none⟩ = some (.string x.t) := (World.cell?_alloc_lt wq _ _ (World.block_lt_of_cell? _ _ c2')).trans c2'
      clear hR2 cO cA f1 c0 c1 c2
      go_wp2_with fail
      go_region
      go_upto_region 2 with (fail)
      have hbo : Below wq.heap.size wq (wq.alloc (.cells #[.int .i64 (x.k : Int), .int .i64 x.c, .string x.t] 26)).drew := ((Below.refl _ _).alloc (Nat.le_refl _) _).drew
      have hzo : wq.heap.size < (wq.alloc (.cells #[.int .i64 (x.k : Int), .int .i64 x.c, .string x.t] 26)).drew.heap.size := by show _ < (wq.alloc _).heap.size; simp
      have o0 : (wq.alloc (.cells #[.int .i64 (x.k : Int), .int .i64 x.c, .string x.t] 26)).drew.cell? ⟨wq.heap.size, 0, none⟩ = some (.int .i64 (x.k : Int)) := by simp [go_sem]
      have o1 : (wq.alloc (.cells #[.int .i64 (x.k : Int), .int .i64 x.c, .string x.t] 26)).drew.cell? ⟨wq.heap.size, 1, none⟩ = some (.int .i64 x.c) := by simp [go_sem]
      have o2 : (wq.alloc (.cells #[.int .i64 (x.k : Int), .int .i64 x.c, .string x.t] 26)).drew.cell? ⟨wq.heap.size, 2, none⟩ = some (.string x.t) := by simp [go_sem]
      have hPo := HR2.out.ps.later hbo
      have hFo : Fr p nv w (wq.alloc (.cells #[.int .i64 (x.k : Int), .int .i64 x.c, .string x.t] 26)).drew := HR2.out.fr.trans HR2.out.mv (Fr.of_below hbo)
      have hOB : B ≤ wq.heap.size := HR2.out.ps.hB
      have hON : some wq.heap.size ≠ nv1.ownBlock := fun e => by have := (HR2.out.ps.own.lt e.symm).2; omega
      have hwO : w.heap.size ≤ wq.heap.size := HR2.out.fr.size
      generalize (wq.alloc (.cells #[.int .i64 (x.k : Int), .int .i64 x.c, .string x.t] 26)).drew = wo at hbo hzo o0 o1 o2 hPo hFo ⊢
      generalize wq.heap.size = O at hbo hzo o0 o1 o2 hOB hON hwO ⊢
      have pA := hPo.cA
      have pf := hPo.f1
      have hpB := hPo.lt
      have hP1 := hPo.setA (j + 1)
      have hF1 := hFo.setP 1 (.int .i64 ((j + 1 : Nat) : Int))
      have e1 : ((j + 1 : Nat) : Int) = (j : Int) + 1 := by omega
      rw [e1] at hP1 hF1
      have k0' := (World.cell?_setCell_other wo ⟨p, 1, none⟩ ⟨O, 0, none⟩ (.int .i64 ((j : Int) + 1)) (by intro e; have := congrArg Addr.block e; simp at this; omega)).trans o0
      have k1' := (World.cell?_setCell_other wo ⟨p, 1, none⟩ ⟨O, 1, none⟩ (.int .i64 ((j : Int) + 1)) (by intro e; have := congrArg Addr.block e; simp at this; omega)).trans o1
      have k2' := (World.cell?_setCell_other wo ⟨p, 1, none⟩ ⟨O, 2, none⟩ (.int .i64 ((j : Int) + 1)) (by intro e; have := congrArg Addr.block e; simp at this; omega)).trans o2
      have hz1 : O < (wo.setCell ⟨p, 1, none⟩ (.int .i64 ((j : Int) + 1))).heap.size := by simpa [World.setCell] using hzo
      clear e1 a1 a2 a3 a4 a5 qO qA q1 c0' c1' c2' hbo hPo hFo o0 o1 o2
      go_upto_region 3 with (fail)
      clear pA pf
      generalize wo.setCell ⟨p, 1, none⟩ (.int .i64 ((j : Int) + 1)) = w1 at hP1 hF1 k0' k1' k2' hz1 ⊢
      have HP1 := Lib.hid hP1
      have HF1 := Lib.hid hF1
      have pO := hP1.cO
      have pA := hP1.cA
      have pN := hP1.cN
      have pf1 := hP1.f1
      have pf2 := hP1.f2
      have hB1 : B ≤ w1.heap.size := hP1.hB
      have hM1 : (N ++ M).length ≤ 10000 := by have := HR.out.small; omega
      clear hP1 hF1 hzo
      by_cases k0 : x.k = 0
      · have b0 : ((x.k : Int) == 0) = true := by simp; omega
        have he : rn (g' + 1) (ops.drop j) = ([mark x.t] ++ (rn g' (ops.drop (j + 1))).1, (rn g' (ops.drop (j + 1))).2) := by
          rw [drop_cons HX.out, rn, if_pos k0]; rfl
        have HE := Lib.hid he
        clear he k0
        have z1 : (w1.alloc (.cells #[.bool false, .string x.t, .int .i64 0, .string ⟨#[]⟩, .bool false] 40)).cell? ⟨p, 2, none⟩ = some nv1 := (World.cell?_alloc_lt w1 _ _ (World.block_lt_of_cell? _ _ pN)).trans pN
        have z2 : (w1.alloc (.cells #[.bool false, .string x.t, .int .i64 0, .string ⟨#[]⟩, .bool false] 40)).cell? ⟨O, 2, none⟩ = some (.string x.t) := (World.cell?_alloc_lt w1 _ _ (World.block_lt_of_cell? _ _ k2')).trans k2'
        go_wp2_with fail
        go_region_law ((refine stepN w1 rfl (.tmp 40) (.tmp 44) rfl B nv1 (N ++ M) (mark x.t) _ rfl rfl HP1.out.own rfl hB1 hM1 ?_); intro v' w' ho hg hm; obtain ⟨A', c', rfl⟩ := ho.slice; obtain ⟨y1, y2⟩ := HP1.out.noteCell hg)
        all_goals
          have hP2 := HP1.out.push ho hg
          have hF2 : Fr p nv w (w'.setCell ⟨p, 2, none⟩ (.slice A' (N ++ M ++ [mark x.t]).length c')) := HF1.out.trans HR.out.mv ((Fr.of_grown hg).setP 2 _)
          have hM2 : Moved nv (.slice A' (N ++ M ++ [mark x.t]).length c') w := HR.out.mv.trans HF1.out.size (moved_push hm)
          have HG := Lib.hid (HR.out.go HE.out hP2 hF2 hM2 (by omega) (by omega) hfu (by rw [HLN.out]; simp; omega))
          have HQ := Lib.hid hP2
          clear ho hg hm y1 y2 hP2 hF2 hM2
          go_wp2_with fail
          go_roundw
          case rel => exact ⟨j + 1, g', _, _, by simpa using HG.out⟩
          case measure => simpa using LRel.less HR.out.ps HQ.out (by omega) (by omega)
      by_cases k13 : x.k = 1 ∨ x.k = 3
      · have he : rn (g' + 1) (ops.drop j) = ([], skl 1 (ops.drop (j + 1)), some (x.c, x.t)) := by
          rw [drop_cons HX.out, rn, if_neg k0, if_pos k13]
        have heq := HR.out.eq
        rw [he] at heq
        have hfin : Played B p (some ⟨ob, off, none⟩) n c ops nv N w (rn f (ops.drop i)) (.panicked (flt ⟨w1.heap.size, 0, none⟩)) (w1.alloc (.cells #[.int .i64 x.c, .string x.t] 45)) := by
          refine ⟨j + 1, nv1, hlt, ?_, HF1.out.trans HR.out.mv (Fr.of_below ((Below.refl _ _).alloc (Nat.le_refl _) _)), HR.out.mv, ?_⟩
          · rw [heq]
            simpa using HP1.out.later ((Below.refl _ _).alloc (Nat.le_refl _) _)
          · unfold Out
            rw [heq]
            exact ⟨_, rfl, HF1.out.size, by simp, fun e => by have := (HP1.out.own.lt e.symm).2; omega, by simp [go_sem], by simp [go_sem]⟩
        have HFIN := Lib.hid hfin
        have b0 : ((x.k : Int) == 0) = false := by simp; omega
        clear he heq hfin k0
        by_cases k1 : x.k = 1
        · have b1 : ((x.k : Int) == 1) = true := by simp; omega
          clear k1 k13
          go_wp2_with fail
          refine (throw_any x.c x.t w1).mono ?_
          rintro e w' ⟨rfl, rfl⟩
          exact ⟨rfl, HFIN.out⟩
        · have b1 : ((x.k : Int) == 1) = false := by simp; omega
          have b2 : ((x.k : Int) == 2) = false := by simp; omega
          have b3 : ((x.k : Int) == 3) = true := by simp; omega
          clear k1 k13
          go_wp2_with fail
          refine (must_no x.c x.t w1).mono ?_
          rintro e w' ⟨rfl, rfl⟩
          exact ⟨rfl, HFIN.out⟩
      have b0 : ((x.k : Int) == 0) = false := by simp; omega
      have b1 : ((x.k : Int) == 1) = false := by simp; omega
      have b3 : ((x.k : Int) == 3) = false := by simp; omega
      by_cases k2 : x.k = 2
      · have b2 : ((x.k : Int) == 2) = true := by simp; omega
        have he : rn (g' + 1) (ops.drop j) = ([] ++ (rn g' (ops.drop (j + 1))).1, (rn g' (ops.drop (j + 1))).2) := by
          rw [drop_cons HX.out, rn, if_neg k0, if_neg k13, if_pos k2]; rfl
        have HG := Lib.hid (HR.out.go he (by rw [List.append_nil]; exact HP1.out) HF1.out HR.out.mv (by omega) (by omega) hfu (by rw [HLN.out]; simp))
        clear he k0 k13 k2
        go_wp2_with fail
        refine (must_yes x.c x.t w1).mono ?_
        rintro e w' ⟨rfl, rfl⟩
        go_wp2_with fail
        go_roundw
        case rel => exact ⟨j + 1, g', nv1, _, HG.out⟩
        case measure => exact LRel.less HR.out.ps HP1.out (by omega) (by omega)
      have b2 : ((x.k : Int) == 2) = false := by simp; omega
      by_cases k6 : x.k = 6
      · have he : rn (g' + 1) (ops.drop j) = ([], ops.drop (j + 1), none) := by
          rw [drop_cons HX.out, rn, if_neg k0, if_neg k13, if_neg k2, if_neg (by omega), if_neg (by omega)]
        have heq := HR.out.eq
        rw [he] at heq
        have hfin : Played B p (some ⟨ob, off, none⟩) n c ops nv N w (rn f (ops.drop i)) (.returned (.tuple #[])) w1 := by
          refine ⟨j + 1, nv1, hlt, ?_, HF1.out, HR.out.mv, ?_⟩
          · rw [heq]
            simpa using HP1.out
          · unfold Out
            rw [heq]
            exact ⟨rfl, rfl⟩
        have HFIN := Lib.hid hfin
        have b4 : ((x.k : Int) == 4) = false := by simp; omega
        have b5 : ((x.k : Int) == 5) = false := by simp; omega
        clear he heq hfin k0 k13 k2 k6
        go_wp2_with fail
        exact bodyPost_ret (v := .tuple #[]) (by simp [results, Try.results10]) rfl HFIN.out
      have k45 : x.k = 4 ∨ x.k = 5 := by omega
      have hmf : ∀ (fn : Fn) (first cap : Array Value) (w : World), (Instr.makeFunc fn first cap).run Try.prog w = .ok (.func fn first cap) w := fun _ _ _ _ => rfl
      have hrs := rn_rest g' (ops.drop (j + 1)) (fun z hz => HK.out z (List.mem_of_mem_drop hz)) hfu
      have hsm := rn_size g' (ops.drop (j + 1)) (fun z hz => HK.out z (List.mem_of_mem_drop hz)) (fun z hz => HS.out z (List.mem_of_mem_drop hz)) hfu
      rw [hrs] at hsm
      have HRS := Lib.hid hrs
      have HSM := Lib.hid hsm.2
      clear hrs hsm
      have hlN0 : (N ++ M).length + (ops.drop (j + 1)).length ≤ 60 := by have := HR.out.small; have := HLN.out; omega
      by_cases k4 : x.k = 4
      · have b4 : ((x.k : Int) == 4) = true := by simp; omega
        go_wp2_with fail
        refine (try_play (IH.out g' (by have := HR.out.gf; omega)) HP1.out hn hlt HK.out HS.out hfu hlN0).mono ?_
        rintro e w2 ⟨i', nv2, hi', hP2, hF2, hM2, hO⟩
        cases hY : (rn g' (ops.drop (j + 1))).2.2 with
        | none =>
          rw [hY] at hO
          obtain ⟨rfl, hdd⟩ := hO
          obtain ⟨i3, hi3, w3, hP3, hFF, hw3⟩ : ∃ i3, i3 = i' ∧ ∃ w3, PS w3 B p (some ⟨ob, off, none⟩) n c ops i3 nv2 (N ++ M ++ (rn g' (ops.drop (j + 1))).1) ∧ Fr p nv w w3 ∧ w3 = w2 := ⟨i', rfl, w2, hP2, HF1.out.trans HR.out.mv hF2, rfl⟩
          subst hi3 hw3
          go_wp2_with fail
          refine (end_no p (j + 1) w3).mono ?_
          rintro e w4 ⟨rfl, rfl⟩
          have hi3 : i3 ≤ n := hi'
          have hMM : Moved nv nv2 w := HR.out.mv.trans HF1.out.size hM2
          have p2 := hP3.cN
          have g1 : (w3.alloc (.cells #[.int .i64 0, .string ⟨#[]⟩, .bool false] 35)).cell? ⟨p, 2, none⟩ = some nv2 := (World.cell?_alloc_lt w3 _ _ (World.block_lt_of_cell? _ _ p2)).trans p2
          have g2 : ((w3.alloc (.cells #[.int .i64 0, .string ⟨#[]⟩, .bool false] 35)).alloc (.cells #[.bool true, .string ⟨#[]⟩, .int .i64 0, .string ⟨#[]⟩, .bool false] 40)).cell? ⟨p, 2, none⟩ = some nv2 := (World.cell?_alloc_lt (w3.alloc (.cells #[.int .i64 0, .string ⟨#[]⟩, .bool false] 35)) _ _ (World.block_lt_of_cell? _ _ g1)).trans g1
          have hPR := hP3.later (w' := w3.alloc (.cells #[.int .i64 0, .string ⟨#[]⟩, .bool false] 35)) ((Below.refl _ _).alloc (Nat.le_refl _) _)
          have hFR : Fr p nv w (w3.alloc (.cells #[.int .i64 0, .string ⟨#[]⟩, .bool false] 35)) := hFF.trans hMM (Fr.of_below ((Below.refl _ _).alloc (Nat.le_refl _) _))
          have hzR : (w3.alloc (.cells #[.int .i64 0, .string ⟨#[]⟩, .bool false] 35)).heap.size = w3.heap.size + 1 := by simp
          have HPR := Lib.hid hPR
          have HFR := Lib.hid hFR
          have HZR := Lib.hid hzR
          have HMM := Lib.hid hMM
          have HDD := Lib.hid hdd
          have hlN : (N ++ M ++ (rn g' (ops.drop (j + 1))).1).length ≤ 10000 := by
            rw [List.length_append]; have := HSM.out; have := HR.out.small; have := HLN.out; omega
          have HLNN := Lib.hid hlN
          have hji : j < i3 := by
            have h1 := congrArg List.length hdd
            have h2 := skl_le (ops.drop (j + 1)) 1
            rw [HRS.out, List.length_drop, HL.out] at h1
            rw [List.length_drop, HL.out] at h2
            omega
          have he : rn (g' + 1) (ops.drop j) = (((rn g' (ops.drop (j + 1))).1 ++ [caughtN none]) ++ (rn g' (ops.drop i3)).1, (rn g' (ops.drop i3)).2) := by
            rw [drop_cons HX.out, rn, if_neg k0, if_neg k13, if_neg k2, if_pos k4, hY, ← hdd]; simp
          have HE := Lib.hid he
          have HY := Lib.hid hY
          clear hP3 hPR hFR hzR hMM hdd hlN he hY hFF hP2 hF2 hM2 
          go_wp2_with fail
          go_region_law (first | (refine stepM (w3.alloc (.cells #[.int .i64 0, .string ⟨#[]⟩, .bool false] 35)) _ HZR.out rfl (.tmp 84) (.tmp 88) rfl B nv2 (N ++ M ++ (rn g' (ops.drop (j + 1))).1) (caughtN none) _ rfl rfl HPR.out.own rfl HPR.out.hB HLNN.out ?_; intro v' w' ho hg hm; obtain ⟨A', c', rfl⟩ := ho.slice; obtain ⟨y1, y2⟩ := HPR.out.noteCell hg) | (go_simp; go_at_call 12; refine (fault_nilE w3).mono ?_; rintro e w' ⟨rfl, rfl⟩))
          all_goals
            have hP4 := HPR.out.push ho hg
            have hF4 : Fr p nv w (w'.setCell ⟨p, 2, none⟩ (.slice A' (N ++ M ++ (rn g' (ops.drop (j + 1))).1 ++ [caughtN none]).length c')) := HFR.out.trans HMM.out ((Fr.of_grown hg).setP 2 _)
            have hM4 : Moved nv (.slice A' (N ++ M ++ (rn g' (ops.drop (j + 1))).1 ++ [caughtN none]).length c') w := HMM.out.trans HFR.out.size (moved_push hm)
            have HG := Lib.hid (HR.out.go (K := (rn g' (ops.drop (j + 1))).1 ++ [caughtN none]) HE.out (by rw [← List.append_assoc]; exact hP4) hF4 hM4 hi3 (by omega) (by rw [HDD.out, HRS.out]; have := skl_le (ops.drop (j + 1)) 1; omega) (by have := HSM.out; have := HLN.out; rw [HDD.out, HRS.out, List.length_append, List.length_singleton]; omega))
            have HQ := Lib.hid hP4
            clear ho hg hm y1 y2 hP4 hF4 hM4
            go_wp2_with fail
            go_roundw
            case rel => exact ⟨i3, g', _, _, by simpa using HG.out⟩
            case measure => simpa using LRel.less HR.out.ps HQ.out hji hi3
        | some y =>
          rw [hY] at hO
          obtain ⟨b, rfl, hb1, hb2, hb3, hc1, hc2⟩ := hO
          go_wp2_with fail
          refine (end_yes B p (some ⟨ob, off, none⟩) n c ops i' nv2 (N ++ M ++ (rn g' (ops.drop (j + 1))).1) (j + 1) w2 hP2 hn hlt).mono ?_
          rintro e w3 ⟨i3, rfl, hi3, hd3, hP3, hF3⟩
          have hbp : b ≠ p := by have := hP2.lt; have := HP1.out.hB; omega
          have hcb1 := (hF3.cell (o := 0) hb2 hbp hb3).trans hc1
          have hcb2 := (hF3.cell (o := 1) hb2 hbp hb3).trans hc2
          have hbz : b < w3.heap.size := Nat.lt_of_lt_of_le hb2 hF3.size
          have hFF : Fr p nv w w3 := (HF1.out.trans HR.out.mv hF2).trans (HR.out.mv.trans HF1.out.size hM2) hF3
          have hdd : ops.drop i3 = (rn g' (ops.drop (j + 1))).2.1 := by rw [hd3, HRS.out]
          have hMM : Moved nv nv2 w := HR.out.mv.trans HF1.out.size hM2
          have p2 := hP3.cN
          have g1 : (w3.alloc (.cells #[.int .i64 y.1, .string y.2, .bool true] 35)).cell? ⟨p, 2, none⟩ = some nv2 := (World.cell?_alloc_lt w3 _ _ (World.block_lt_of_cell? _ _ p2)).trans p2
          have g2 : ((w3.alloc (.cells #[.int .i64 y.1, .string y.2, .bool true] 35)).alloc (.cells #[.bool true, .string ⟨#[]⟩, .int .i64 y.1, .string y.2, .bool true] 40)).cell? ⟨p, 2, none⟩ = some nv2 := (World.cell?_alloc_lt (w3.alloc (.cells #[.int .i64 y.1, .string y.2, .bool true] 35)) _ _ (World.block_lt_of_cell? _ _ g1)).trans g1
          have hPR := hP3.later (w' := w3.alloc (.cells #[.int .i64 y.1, .string y.2, .bool true] 35)) ((Below.refl _ _).alloc (Nat.le_refl _) _)
          have hFR : Fr p nv w (w3.alloc (.cells #[.int .i64 y.1, .string y.2, .bool true] 35)) := hFF.trans hMM (Fr.of_below ((Below.refl _ _).alloc (Nat.le_refl _) _))
          have hzR : (w3.alloc (.cells #[.int .i64 y.1, .string y.2, .bool true] 35)).heap.size = w3.heap.size + 1 := by simp
          have HPR := Lib.hid hPR
          have HFR := Lib.hid hFR
          have HZR := Lib.hid hzR
          have HMM := Lib.hid hMM
          have HDD := Lib.hid hdd
          have hlN : (N ++ M ++ (rn g' (ops.drop (j + 1))).1).length ≤ 10000 := by
            rw [List.length_append]; have := HSM.out; have := HR.out.small; have := HLN.out; omega
          have HLNN := Lib.hid hlN
          have hji : j < i3 := by
            have h1 := congrArg List.length hdd
            have h2 := skl_le (ops.drop (j + 1)) 1
            rw [HRS.out, List.length_drop, HL.out] at h1
            rw [List.length_drop, HL.out] at h2
            omega
          have he : rn (g' + 1) (ops.drop j) = (((rn g' (ops.drop (j + 1))).1 ++ [caughtN (some y)]) ++ (rn g' (ops.drop i3)).1, (rn g' (ops.drop i3)).2) := by
            rw [drop_cons HX.out, rn, if_neg k0, if_neg k13, if_neg k2, if_pos k4, hY, ← hdd]; simp
          have HE := Lib.hid he
          have HY := Lib.hid hY
          clear hP3 hPR hFR hzR hMM hdd hlN he hY hFF hP2 hF2 hM2 hF3 hd3
          go_wp2_with fail
          go_region_law (first | (refine stepM (w3.alloc (.cells #[.int .i64 y.1, .string y.2, .bool true] 35)) _ HZR.out rfl (.tmp 84) (.tmp 88) rfl B nv2 (N ++ M ++ (rn g' (ops.drop (j + 1))).1) (caughtN (some y)) _ rfl rfl HPR.out.own rfl HPR.out.hB HLNN.out ?_; intro v' w' ho hg hm; obtain ⟨A', c', rfl⟩ := ho.slice; obtain ⟨y1, y2⟩ := HPR.out.noteCell hg) | (go_simp; go_at_call 12; refine (fault_someE hbz hcb1 hcb2).mono ?_; rintro e w' ⟨rfl, rfl⟩))
          all_goals
            have hP4 := HPR.out.push ho hg
            have hF4 : Fr p nv w (w'.setCell ⟨p, 2, none⟩ (.slice A' (N ++ M ++ (rn g' (ops.drop (j + 1))).1 ++ [caughtN (some y)]).length c')) := HFR.out.trans HMM.out ((Fr.of_grown hg).setP 2 _)
            have hM4 : Moved nv (.slice A' (N ++ M ++ (rn g' (ops.drop (j + 1))).1 ++ [caughtN (some y)]).length c') w := HMM.out.trans HFR.out.size (moved_push hm)
            have HG := Lib.hid (HR.out.go (K := (rn g' (ops.drop (j + 1))).1 ++ [caughtN (some y)]) HE.out (by rw [← List.append_assoc]; exact hP4) hF4 hM4 hi3 (by omega) (by rw [HDD.out, HRS.out]; have := skl_le (ops.drop (j + 1)) 1; omega) (by have := HSM.out; have := HLN.out; rw [HDD.out, HRS.out, List.length_append, List.length_singleton]; omega))
            have HQ := Lib.hid hP4
            clear ho hg hm y1 y2 hP4 hF4 hM4
            go_wp2_with fail
            go_roundw
            case rel => exact ⟨i3, g', _, _, by simpa using HG.out⟩
            case measure => simpa using LRel.less HR.out.ps HQ.out hji hi3
      · have b4 : ((x.k : Int) == 4) = false := by simp; omega
        have b5 : ((x.k : Int) == 5) = true := by simp; omega
        go_wp2_with fail
        refine (in_play (IH.out g' (by have := HR.out.gf; omega)) x.t HP1.out hn hlt HK.out HS.out hfu hlN0 hxt).mono ?_
        rintro e w2 ⟨i', nv2, hi', hP2, hF2, hM2, hO⟩
        cases hY : (rn g' (ops.drop (j + 1))).2.2 with
        | none =>
          rw [hY] at hO
          obtain ⟨rfl, hdd⟩ := hO
          have hji : j < i' := by
            have h1 := congrArg List.length hdd
            have h2 := skl_le (ops.drop (j + 1)) 1
            rw [HRS.out, List.length_drop, HL.out] at h1
            rw [List.length_drop, HL.out] at h2
            omega
          have he : rn (g' + 1) (ops.drop j) = ((rn g' (ops.drop (j + 1))).1 ++ (rn g' (ops.drop i')).1, (rn g' (ops.drop i')).2) := by
            rw [drop_cons HX.out, rn, if_neg k0, if_neg k13, if_neg k2, if_neg k4, if_pos (by omega), hY, ← hdd]
          have HG := Lib.hid (HR.out.go he hP2 (HF1.out.trans HR.out.mv hF2) (HR.out.mv.trans HF1.out.size hM2) hi' (by omega) (by rw [hdd, HRS.out]; have := skl_le (ops.drop (j + 1)) 1; omega) (by have := HSM.out; have := HLN.out; rw [hdd, HRS.out]; omega))
          have HQ := Lib.hid hP2
          clear he hP2 hF2 hM2 hdd hY
          go_wp2_with fail
          go_roundw
          case rel => exact ⟨i', g', nv2, _, HG.out⟩
          case measure => exact LRel.less HR.out.ps HQ.out hji hi'
        | some y =>
          rw [hY] at hO
          obtain ⟨b, rfl, hb1, hb2, hb3, hc1, hc2⟩ := hO
          have heq := HR.out.eq
          have he : rn (g' + 1) (ops.drop j) = ((rn g' (ops.drop (j + 1))).1, skl 1 (rn g' (ops.drop (j + 1))).2.1, some (y.1, ins x.t y.2)) := by
            rw [drop_cons HX.out, rn, if_neg k0, if_neg k13, if_neg k2, if_neg k4, if_pos (by omega), hY]
          rw [he] at heq
          refine ⟨rfl, i', nv2, hi', ?_, HF1.out.trans HR.out.mv hF2, HR.out.mv.trans HF1.out.size hM2, ?_⟩
          · rw [heq]
            simpa using hP2
          · unfold Out
            rw [heq]
            exact ⟨b, rfl, Nat.le_trans HF1.out.size hb1, hb2, hb3, hc1, hc2⟩
    · have he : rn g (ops.drop j) = ([], [], none) := by
        rw [List.drop_of_length_le (by rw [HL.out]; omega)]
        cases g <;> rfl
      have heq := HR.out.eq
      rw [he] at heq
      have hfin : ∀ k, Played B p A n c ops nv N w (rn f (ops.drop i)) (.returned (.tuple #[])) (wr.drewN k) := by
        intro k
        refine ⟨j, nv1, hjn, ?_, HR.out.fr.drewN k, HR.out.mv, ?_⟩
        · rw [heq]
          simpa using HR.out.ps.drewN k
        · unfold Out
          rw [heq]
          exact ⟨rfl, List.drop_of_length_le (by rw [HL.out]; omega)⟩
      have HFIN := Lib.hid hfin
      clear he heq hfin
      have d0 : decide ((j : Int) < (n : Int)) = false := by simp; omega
      go_wp2_with fail
      go_quiet (fail)
      go_wp2_with fail
      go_end0
      exact HFIN.out _
end Go.Proofs.Ytmjpdncgapbfpaa
