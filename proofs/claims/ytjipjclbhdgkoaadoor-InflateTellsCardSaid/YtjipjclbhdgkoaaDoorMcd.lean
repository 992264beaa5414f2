/- Contract of codeOf. -/
import Derived.Test.YtjipjclbhdgkoaaDoorGroupF
namespace Go.Proofs.YtjipjclbhdgkoaaDoor
open Go.RowKit

variable {g r H : Nat} {A : Option Addr} {n c : Nat} {l : List UInt8} {lim : Nat} {v : Value} {s : Sx}
def ints64 (ls : List Nat) : List Int := ls.map Int.ofNat
theorem nats_ints (ls : List Nat) : nats (ints64 ls) = ls := by
  unfold nats ints64
  rw [List.map_map]
  exact (List.map_congr_left (g := id) (fun x _ => rfl)).trans (List.map_id ls)
theorem rng_ints {ls : List Nat} (h : Low ls) : rng (ints64 ls) := fun x hx => by
  obtain ⟨y, hy, rfl⟩ := List.mem_map.1 hx
  have := h y hy
  exact ⟨Int.natCast_nonneg y, by show (y : Int) ≤ 15; omega⟩
theorem ints_length (ls : List Nat) : (ints64 ls).length = ls.length := by simp [ints64]
/-- What codeOf comes to. -/
def CodeM (w : World) (ls : List Nat) (lone : Bool) (e : Ending) (w' : World) : Prop :=
  Below w.heap.size w w' ∧ ((right ls lone = true ∧ ∃ a, e = .returned (.pointer (some ⟨a, 0, none⟩)) ∧ HL w' w.heap.size w'.heap.size a ls) ∨
    (right ls lone = false ∧ ∃ b, e = .panicked (flt ⟨b, 0, none⟩) ∧ w.heap.size ≤ b ∧ w'.cell? ⟨b, 0, none⟩ = some (.int .i64 2)))

set_option maxHeartbeats 1000000 in
theorem code_any (A : Option Addr) (n c : Nat) (ls : List Nat) (lone : Bool) (w : World) (hr : Rd w w.heap.size A n (is (ints64 ls))) (hA : A = none → c = 0) (hn : ls.length ≤ 320) (hlow : Low ls) :
    Calls Tryd.prog 57 #[.slice A n c, .bool lone] w (CodeM w ls lone) := by
  have hn2 : n = ls.length := by have := hr.1; rw [is_length, ints_length] at this; exact this.symm
  have HC := Lib.hid (new_full A n c (ints64 ls) lone w hr hA (by omega))
  have HR := Lib.hid (newE_right (L := ints64 ls) lone (by rw [ints_length]; exact hn) (rng_ints hlow))
  rw [nats_ints] at HR
  clear hr hA hn2
  go_enter Tryd.func57, Tryd.ntmps57
  go_wp2_with fail
  refine HC.out.mono ?_
  rintro e w1 ⟨⟨hb, h1, h2⟩, h3⟩
  by_cases h : newE (ints64 ls) lone = 0
  · obtain ⟨a, rfl, _⟩ := h2 h
    have HF := Lib.hid (h3 a rfl h)
    rw [nats_ints] at HF
    have HB := Lib.hid hb
    have HT := Lib.hid (HR.out.1 h)
    clear h1 h2 h3 hb h HC HR
    go_wp2_with fail
    refine (must_ok w1 _ rfl).mono ?_
    rintro e w2 ⟨rfl, rfl⟩
    go_wp2_with fail
    go_ret
    exact ⟨HB.out, .inl ⟨HT.out, a, rfl, HF.out⟩⟩
  · obtain rfl := h1 h
    have HT : RowKit.Hid (right ls lone = false) := Lib.hid (by
      cases hh : right ls lone with
      | false => rfl
      | true => exact absurd (HR.out.2 hh) h)
    obtain ⟨k, hk⟩ : ∃ k, newE (ints64 ls) lone = k + 1 := ⟨newE (ints64 ls) lone - 1, by omega⟩
    rw [hk, show errV (k + 1) = .iface 39 (.int .i64 ((k + 1 : Nat) : Int)) from rfl]
    generalize ((k + 1 : Nat) : Int) = z
    have HB := Lib.hid hb
    clear h1 h2 h3 hb h hk HC HR
    go_wp2_with fail
    refine (must_no w1 _ rfl).mono ?_
    rintro e w2 ⟨rfl, rfl⟩
    exact ⟨rfl, HB.out.alloc HB.out.size _, .inr ⟨HT.out, w1.heap.size, rfl, HB.out.size, cells_new w1 #[.int .i64 2, .string ⟨#[]⟩] 75 0 _ rfl⟩⟩
end Go.Proofs.YtjipjclbhdgkoaaDoor
