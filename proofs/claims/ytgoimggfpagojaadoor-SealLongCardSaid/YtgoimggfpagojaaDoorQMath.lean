/- Plain mathematics of chacha: words turned left, a quarter turn. No program. -/
import Derived.Test.YtgoimggfpagojaaDoorMH1
namespace Go.Proofs.YtgoimggfpagojaaDoor
open Go.RowKit

/-- Turned left. -/
def rol (x : BitVec 32) (n : Nat) : BitVec 32 := x <<< n ||| x >>> (32 - n)
theorem rol_add (x : BitVec 32) (n : Nat) (h : n ≤ 32) : x <<< n + x >>> (32 - n) = rol x n := by
  unfold rol
  refine BitVec.add_eq_or_of_and_eq_zero _ _ ?_
  apply BitVec.eq_of_getLsbD_eq
  intro i hi
  simp only [BitVec.getLsbD_and, BitVec.getLsbD_ushiftRight, BitVec.getLsbD_shiftLeft, BitVec.getLsbD_zero]
  by_cases h1 : i < n
  · simp [h1]
  · rw [BitVec.getLsbD_of_ge x (32 - n + i) (by omega)]; simp
/-- Four words. -/
structure Qr where
  a : BitVec 32
  b : BitVec 32
  c : BitVec 32
  d : BitVec 32
/-- A half of a quarter turn. -/
def half (q : Qr) (m n : Nat) : Qr :=
  { a := q.a + q.b,
    d := rol (q.d ^^^ (q.a + q.b)) m,
    c := q.c + rol (q.d ^^^ (q.a + q.b)) m,
    b := rol (q.b ^^^ (q.c + rol (q.d ^^^ (q.a + q.b)) m)) n }
/-- A quarter turn. -/
def qtr (q : Qr) : Qr := half (half q 16 12) 8 7
end Go.Proofs.YtgoimggfpagojaaDoor
