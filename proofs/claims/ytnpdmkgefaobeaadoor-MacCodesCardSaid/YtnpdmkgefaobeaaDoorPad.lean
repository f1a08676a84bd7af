/- Plain mathematics: what stands behind a text, blocks, the digest's bytes. No program. -/
import Derived.Test.YtnpdmkgefaobeaaDoorSha
import Derived.Test.YtnpdmkgefaobeaaDoorBytes
import Derived.Laws.BytesArg
import Derived.Lib.AppendStr
namespace Go.Proofs.YtnpdmkgefaobeaaDoor
open Go.RowKit

def blocksN (n : Nat) : Nat := if n % 64 + 9 > 64 then n / 64 + 2 else n / 64 + 1
def padLen (n : Nat) : Nat := 64 * blocksN n - n
theorem blocksN_bd (n : Nat) : n + 9 ≤ 64 * blocksN n ∧ 64 * blocksN n ≤ n + 72 := by
  unfold blocksN; split <;> omega
theorem padLen_bd (n : Nat) : 9 ≤ padLen n ∧ padLen n ≤ 72 ∧ n + padLen n = 64 * blocksN n := by
  have := blocksN_bd n; unfold padLen; omega
def padAt (n j : Nat) : UInt8 := if j = 0 then 128 else if j + 8 < padLen n then 0 else UInt8.ofNat (8 * n / 256 ^ (padLen n - 1 - j))
def padL (n : Nat) : List UInt8 := (List.range (padLen n)).map (padAt n)
theorem padL_length (n : Nat) : (padL n).length = padLen n := by simp [padL]
theorem padL_get (n j : Nat) (h : j < padLen n) : (padL n)[j]? = some (padAt n j) := by simp [padL, h]

/-- n blocks of l taken into s. -/
def absorb (s : St) (l : List UInt8) : Nat → St
  | 0 => s
  | n + 1 => take (absorb s l n) (wordOf fun j => l.getD (64 * n + j) 0)
theorem wordOf_congr {f g : Nat → UInt8} {i : Nat} (h : ∀ j, j < 64 → f j = g j) (hi : i < 16) : wordOf f i = wordOf g i := by
  unfold wordOf; rw [h _ (by omega), h _ (by omega), h _ (by omega), h _ (by omega)]
theorem sched_congr {m m' : Nat → BitVec 32} (h : ∀ i, i < 16 → m i = m' i) : ∀ n, sched m n = sched m' n
  | 0 => rfl
  | n + 1 => by
    rw [sched, sched, sched_congr h n]
    by_cases e : n < 16
    · rw [if_pos e, if_pos e, h n e]
    · rw [if_neg e, if_neg e]
theorem rounds_congr {m m' : Nat → BitVec 32} (h : ∀ i, i < 16 → m i = m' i) (s : St) : ∀ n, rounds m s n = rounds m' s n
  | 0 => rfl
  | n + 1 => by rw [rounds, rounds, rounds_congr h s n, ww, ww, sched_congr h]
theorem take_congr {m m' : Nat → BitVec 32} (h : ∀ i, i < 16 → m i = m' i) (s : St) : take s m = take s m' := by
  rw [take, take, rounds_congr h]
theorem absorb_congr (s : St) {l l' : List UInt8} : ∀ n, (∀ j, j < 64 * n → l.getD j 0 = l'.getD j 0) → absorb s l n = absorb s l' n
  | 0, _ => rfl
  | n + 1, h => by
    rw [absorb, absorb, absorb_congr s n (fun j hj => h j (by omega))]
    exact take_congr (fun i hi => wordOf_congr (fun j hj => h _ (by omega)) hi) _
/-- The digest's words of a text. -/
def shaSt (l : List UInt8) : St := absorb first (l ++ padL l.length) (blocksN l.length)
/-- Byte i of the eight words. -/
def outAt (s : St) (i : Nat) : UInt8 := UInt8.ofNat ((s.get (i / 4) >>> (24 - i % 4 * 8)).toNat)
def outL (s : St) : List UInt8 := (List.range 32).map (outAt s)
theorem outL_length (s : St) : (outL s).length = 32 := by simp [outL]
/-- The digest of a text. -/
def sha (l : List UInt8) : List UInt8 := outL (shaSt l)
theorem sha_length (l : List UInt8) : (sha l).length = 32 := outL_length _

end Go.Proofs.YtnpdmkgefaobeaaDoor
