/- The reference's constants as plain functions on numbers: primes, roots. No program is named here. -/
import Derived.Test.YtbklcelnnmhgkaaDoorPure
namespace Go.Proofs.YtbklcelnnmhgkaaDoor

def nthN (l : List Nat) (i : Nat) : Nat := l.getD i 0
def lowN (x : Nat) : Nat := x % 4294967296
def hiN (x : Nat) : Nat := x / 4294967296
def aN (x y : Nat) : Nat := (x + y) % 18446744073709551616
def mN (x y : Nat) : Nat := x * y % 18446744073709551616

/-- One limb times one limb. -/
def limbP (a c : List Nat) (i j : Nat) (s : List Nat × Nat) : Nat := aN (aN (nthN s.1 (i + j)) (mN (nthN c i) (nthN a j))) s.2
def innerP (a c : List Nat) (i j : Nat) (s : List Nat × Nat) : List Nat × Nat := (s.1.set (i + j) (lowN (limbP a c i j s)), hiN (limbP a c i j s))
def inner (a c : List Nat) (i : Nat) (next : List Nat) : List Nat × Nat := upto (innerP a c i) (min 2 (5 - i)) (next, 0)
def lastP (i : Nat) (s : List Nat × Nat) : List Nat := if i + 2 < 5 then s.1.set (i + 2) (aN (nthN s.1 (i + 2)) s.2) else s.1
def midP (a c : List Nat) (i : Nat) (next : List Nat) : List Nat := lastP i (inner a c i next)
def zero5 : List Nat := [0, 0, 0, 0, 0]
def mulP (a c : List Nat) : List Nat := upto (midP a c) 5 zero5
def limbs (x : Nat) : List Nat := [lowN x, hiN x, 0, 0, 0]
def powP (x : Nat) : Nat → List Nat
  | 0 => [1, 0, 0, 0, 0]
  | k + 1 => mulP (limbs x) (powP x k)
/-- The last comparison. -/
def cmpP (c : List Nat) (n : Nat) : Bool :=
  decide (0 < nthN c 4) || (decide (n < nthN c 3) || ((nthN c 3 == n) && (decide (0 < nthN c 2) || decide (0 < nthN c 1) || decide (0 < nthN c 0))))
def aboveP (x n : Nat) : Bool := cmpP (powP x 3) n

/-- The lower bound behind k halvings. -/
def lowStep (n k low : Nat) : Nat := bif aboveP (low + 2 ^ (35 - k)) n then low else low + 2 ^ (35 - k)
def lowP (n k : Nat) : Nat := upto (lowStep n) k 0
def cubeP (n : Nat) : UInt32 := UInt32.ofNat (lowP n 36)

/-- One figure more of a square root: root, rest. -/
def sqStep (s : Nat × Nat) : Nat × Nat := if 2 * (s.1 * 2) + 1 ≤ s.2 * 4 then (s.1 * 2 + 1, s.2 * 4 - (2 * (s.1 * 2) + 1)) else (s.1 * 2, s.2 * 4)
def sqP (whole n : Nat) : Nat → Nat × Nat
  | 0 => (whole, n - whole * whole)
  | k + 1 => sqStep (sqP whole n k)
def wholeP (n : Nat) : Nat := ((List.range 20).filter fun k => decide ((k + 1) * (k + 1) ≤ n)).length
def squareP (n : Nat) : UInt32 := UInt32.ofNat (sqP (wholeP n) n 32).1

/-- The primes up to 2 + k - 1. -/
def prStep (i : Nat) (out : List Nat) : List Nat := if out.all (fun p => (2 + i) % p != 0) then out ++ [2 + i] else out
def pr (k : Nat) : List Nat := upto prStep k []
def P64 : List Nat := [2, 3, 5, 7, 11, 13, 17, 19, 23, 29, 31, 37, 41, 43, 47, 53, 59, 61, 67, 71, 73, 79, 83, 89, 97, 101, 103, 107, 109, 113, 127, 131, 137, 139, 149, 151, 157, 163, 167, 173, 179, 181, 191, 193, 197, 199, 211, 223, 227, 229, 233, 239, 241, 251, 257, 263, 269, 271, 277, 281, 283, 293, 307, 311]
theorem pr_all : pr 310 = P64 := by decide +kernel
theorem pr_less : (pr 309).length = 63 := by decide +kernel
theorem squares : (P64.take 8).map squareP = S0.list := by decide +kernel
theorem cb2 : lowP 2 36 = 5411319704 := by decide +kernel
theorem cb3 : lowP 3 36 = 6194414737 := by decide +kernel
theorem cb5 : lowP 5 36 = 7344290767 := by decide +kernel
theorem cb7 : lowP 7 36 = 8215976869 := by decide +kernel
theorem cb11 : lowP 11 36 = 9551921755 := by decide +kernel
theorem cb13 : lowP 13 36 = 10098905585 := by decide +kernel
theorem cb17 : lowP 17 36 = 11043570340 := by decide +kernel
theorem cb19 : lowP 19 36 = 11460697813 := by decide +kernel
theorem cb23 : lowP 23 36 = 12214315672 := by decide +kernel
theorem cb29 : lowP 29 36 = 13195500289 := by decide +kernel
theorem cb31 : lowP 31 36 = 13492127166 := by decide +kernel
theorem cb37 : lowP 37 36 = 14311783875 := by decide +kernel
theorem cb41 : lowP 41 36 = 14809980276 := by decide +kernel
theorem cb43 : lowP 43 36 = 15046980094 := by decide +kernel
theorem cb47 : lowP 47 36 = 15499789991 := by decide +kernel
theorem cb53 : lowP 53 36 = 16133124468 := by decide +kernel
theorem cb59 : lowP 59 36 = 16720292289 := by decide +kernel
theorem cb61 : lowP 61 36 = 16907126662 := by decide +kernel
theorem cb67 : lowP 67 36 = 17444216262 := by decide +kernel
theorem cb71 : lowP 71 36 = 17784676812 := by decide +kernel
theorem cb73 : lowP 73 36 = 17950125167 := by decide +kernel
theorem cb79 : lowP 79 36 = 18429019306 := by decide +kernel
theorem cb83 : lowP 83 36 = 18734950876 := by decide +kernel
theorem cb89 : lowP 89 36 = 19175934170 := by decide +kernel
theorem cb97 : lowP 97 36 = 19734090066 := by decide +kernel
theorem cb101 : lowP 101 36 = 20001703533 := by decide +kernel
theorem cb103 : lowP 103 36 = 20132865992 := by decide +kernel
theorem cb107 : lowP 107 36 = 20390182855 := by decide +kernel
theorem cb109 : lowP 109 36 = 20516441075 := by decide +kernel
theorem cb113 : lowP 113 36 = 20764397895 := by decide +kernel
theorem cb127 : lowP 127 36 = 21588763473 := by decide +kernel
theorem cb131 : lowP 131 36 = 21813078375 := by decide +kernel
theorem cb137 : lowP 137 36 = 22141143685 := by decide +kernel
theorem cb139 : lowP 139 36 = 22248366392 := by decide +kernel
theorem cb149 : lowP 149 36 = 22769593852 := by decide +kernel
theorem cb151 : lowP 151 36 = 22871018771 := by decide +kernel
theorem cb157 : lowP 157 36 = 23170020180 := by decide +kernel
theorem cb163 : lowP 163 36 = 23461497531 := by decide +kernel
theorem cb167 : lowP 167 36 = 23651862830 := by decide +kernel
theorem cb173 : lowP 173 36 = 23931792517 := by decide +kernel
theorem cb179 : lowP 179 36 = 24205322401 := by decide +kernel
theorem cb181 : lowP 181 36 = 24295138891 := by decide +kernel
theorem cb191 : lowP 191 36 = 24734567280 := by decide +kernel
theorem cb193 : lowP 193 36 = 24820601251 := by decide +kernel
theorem cb197 : lowP 197 36 = 24990902297 := by decide +kernel
theorem cb199 : lowP 199 36 = 25075189284 := by decide +kernel
theorem cb211 : lowP 211 36 = 25569408389 := by decide +kernel
theorem cb223 : lowP 223 36 = 26045227120 := by decide +kernel
theorem cb227 : lowP 227 36 = 26200031510 := by decide +kernel
theorem cb229 : lowP 229 36 = 26276752392 := by decide +kernel
theorem cb233 : lowP 233 36 = 26428864332 := by decide +kernel
theorem cb239 : lowP 239 36 = 26653801653 := by decide +kernel
theorem cb241 : lowP 241 36 = 26727943347 := by decide +kernel
theorem cb251 : lowP 251 36 = 27092625994 := by decide +kernel
theorem cb257 : lowP 257 36 = 27306805839 := by decide +kernel
theorem cb263 : lowP 263 36 = 27517677555 := by decide +kernel
theorem cb269 : lowP 269 36 = 27725365998 := by decide +kernel
theorem cb271 : lowP 271 36 = 27793908591 := by decide +kernel
theorem cb277 : lowP 277 36 = 27997534228 := by decide +kernel
theorem cb281 : lowP 281 36 = 28131656200 := by decide +kernel
theorem cb283 : lowP 283 36 = 28198240250 := by decide +kernel
theorem cb293 : lowP 293 36 = 28526537963 := by decide +kernel
theorem cb307 : lowP 307 36 = 28973835255 := by decide +kernel
theorem cb311 : lowP 311 36 = 29099129074 := by decide +kernel
theorem cubes : P64.map cubeP = KT := by
  simp only [P64, List.map_cons, List.map_nil, cubeP, cb2, cb3, cb5, cb7, cb11, cb13, cb17, cb19, cb23, cb29, cb31, cb37, cb41, cb43, cb47, cb53, cb59, cb61, cb67, cb71, cb73, cb79, cb83, cb89, cb97, cb101, cb103, cb107, cb109, cb113, cb127, cb131, cb137, cb139, cb149, cb151, cb157, cb163, cb167, cb173, cb179, cb181, cb191, cb193, cb197, cb199, cb211, cb223, cb227, cb229, cb233, cb239, cb241, cb251, cb257, cb263, cb269, cb271, cb277, cb281, cb283, cb293, cb307, cb311]
  decide +kernel
end Go.Proofs.YtbklcelnnmhgkaaDoor
