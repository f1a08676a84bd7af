/- Merged by program: Plain mathematics of the digest: words of 32 bits as bit vectors, and how the model's numbers of kind u32 stand for them. No program. | Plain mathematics of the sum of layer 3: registers of 32 bits as bit vectors; a bit taken in; bytes; bits 0; products. Of no program. | crc.Step, crc.zeroBits. | crc.product, crc.Zeros, crc.Combine. | crc.More: bytes taken in four bits at once. | lockboxlaw03.awake. | The reference lockboxref03: Step, Reg, More, Sum, Zeros. | Plain mathematics of a burst: some bits within 32 that stand side by side are turned. Of no program. -/
import Derived.WalkKit
import Derived.Test.YtdmbombjkinboaaGreatProg
import Derived.LoopTactic
import Derived.Lib.Hide
import Derived.Deep.DeepMust
import Derived.Deep.LoopGhost
import Derived.ScopeJumps
import Derived.Deep.QuietTactic
import Derived.BigQuiet
import Derived.StillTailTactics
import Derived.Deep.MidRow
namespace Go.Proofs.YtdmbombjkinboaaGreat
open Go.RowKit

/-- The number of a word, closed to the walk. -/
def V (x : BitVec 32) : Int := (x.toNat : Int)

theorem V_nonneg (x : BitVec 32) : 0 ≤ V x := Int.natCast_nonneg _
theorem V_lt (x : BitVec 32) : V x < 4294967296 := by have := x.isLt; unfold V; omega

theorem V_add (x y : BitVec 32) : (V x + V y) % 4294967296 = V (x + y) := by
  unfold V; rw [BitVec.toNat_add]; omega
theorem V_add' (x y : BitVec 32) : IntKind.u32.wrap (V x + V y) = V (x + y) := by
  rw [IntKind.wrap_u32', V_add]
theorem V_xor (x y : BitVec 32) : bits .xor .u32 (V x) (V y) = V (x ^^^ y) := by
  unfold V; rw [u32_xor_nat _ _ x.isLt y.isLt, BitVec.toNat_xor]
theorem V_and (x y : BitVec 32) : bits .and .u32 (V x) (V y) = V (x &&& y) := by
  unfold V; rw [u32_and_nat _ _ x.isLt y.isLt, BitVec.toNat_and]
theorem V_or (x y : BitVec 32) : bits .or .u32 (V x) (V y) = V (x ||| y) := by
  unfold V; rw [u32_or_nat _ _ x.isLt y.isLt, BitVec.toNat_or]
theorem V_not (x : BitVec 32) : bits .xor .u32 4294967295 (V x) = V (~~~x) := by
  unfold V
  rw [show (4294967295 : Int) = ((4294967295 : Nat) : Int) from rfl, u32_xor_nat _ _ (by decide) x.isLt]
  rw [← BitVec.allOnes_xor, BitVec.toNat_xor]
  rfl
theorem V_not' (x : BitVec 32) : bits .xor .u32 (if IntKind.u32.signed = true then -1 else IntKind.u32.max) (V x) = V (~~~x) := V_not x
theorem V_shr (x : BitVec 32) (n : Nat) : V x / 2 ^ n = V (x >>> n) := by
  unfold V; rw [BitVec.toNat_ushiftRight, Nat.shiftRight_eq_div_pow]; simp
theorem V_div8 (x : BitVec 32) : V x / (8 : Int) = V (x >>> 3) := V_shr x 3
theorem V_div256 (x : BitVec 32) : V x / (256 : Int) = V (x >>> 8) := V_shr x 8
theorem V_div1024 (x : BitVec 32) : V x / (1024 : Int) = V (x >>> 10) := V_shr x 10
theorem V_div65536 (x : BitVec 32) : V x / (65536 : Int) = V (x >>> 16) := V_shr x 16
theorem V_div16777216 (x : BitVec 32) : V x / (16777216 : Int) = V (x >>> 24) := V_shr x 24
theorem V_shl (x : BitVec 32) (n : Nat) : IntKind.u32.wrap (V x * 2 ^ n) = V (x <<< n) := by
  unfold V; rw [BitVec.toNat_shiftLeft, Nat.shiftLeft_eq, IntKind.wrap_u32']
  simp
theorem V_shl' (x : BitVec 32) (n : Nat) : (V x * 2 ^ n) % 4294967296 = V (x <<< n) := by
  rw [← V_shl, IntKind.wrap_u32']
theorem V_num (n : Nat) (h : n < 4294967296) : V (BitVec.ofNat 32 n) = (n : Int) := by
  unfold V; rw [BitVec.toNat_ofNat, Nat.mod_eq_of_lt (by omega)]
theorem V_inj {x y : BitVec 32} (h : V x = V y) : x = y := by
  unfold V at h; exact BitVec.eq_of_toNat_eq (by omega)

/-- Turned right. -/
def ror (x : BitVec 32) (n : Nat) : BitVec 32 := x >>> n ||| x <<< (32 - n)
theorem ror_or (x : BitVec 32) (n : Nat) : x <<< (32 - n) ||| x >>> n = ror x n := BitVec.or_comm _ _
theorem ror_add (x : BitVec 32) (n : Nat) (h : n ≤ 32) : x >>> n + x <<< (32 - n) = ror x n := by
  unfold ror
  refine BitVec.add_eq_or_of_and_eq_zero _ _ ?_
  apply BitVec.eq_of_getLsbD_eq
  intro i hi
  simp only [BitVec.getLsbD_and, BitVec.getLsbD_ushiftRight, BitVec.getLsbD_shiftLeft, BitVec.getLsbD_zero]
  by_cases h1 : i < 32 - n
  · simp [h1]
  · rw [BitVec.getLsbD_of_ge x (n + i) (by omega)]; simp

/-! ### The sum, as the document defines it -/
/-- k0 to k63. -/
def kList : List Nat := [1116352408, 1899447441, 3049323471, 3921009573, 961987163, 1508970993, 2453635748, 2870763221, 3624381080, 310598401, 607225278, 1426881987, 1925078388, 2162078206, 2614888103, 3248222580, 3835390401, 4022224774, 264347078, 604807628, 770255983, 1249150122, 1555081692, 1996064986, 2554220882, 2821834349, 2952996808, 3210313671, 3336571891, 3584528711, 113926993, 338241895, 666307205, 773529912, 1294757372, 1396182291, 1695183700, 1986661051, 2177026350, 2456956037, 2730485921, 2820302411, 3259730800, 3345764771, 3516065817, 3600352804, 4094571909, 275423344, 430227734, 506948616, 659060556, 883997877, 958139571, 1322822218, 1537002063, 1747873779, 1955562222, 2024104815, 2227730452, 2361852424, 2428436474, 2756734187, 3204031479, 3329325298]
def kk (t : Nat) : BitVec 32 := BitVec.ofNat 32 (kList.getD t 0)
/-- h0 to h7. -/
def hList : List Nat := [1779033703, 3144134277, 1013904242, 2773480762, 1359893119, 2600822924, 528734635, 1541459225]
def hh (t : Nat) : BitVec 32 := BitVec.ofNat 32 (hList.getD t 0)

/-- Eight words. -/
structure St where
  a : BitVec 32
  b : BitVec 32
  c : BitVec 32
  d : BitVec 32
  e : BitVec 32
  f : BitVec 32
  g : BitVec 32
  h : BitVec 32

def uOf (s : St) (k x : BitVec 32) : BitVec 32 :=
  s.h + (ror s.e 6 ^^^ ror s.e 11 ^^^ ror s.e 25) + (s.e &&& s.f ^^^ ~~~s.e &&& s.g) + k + x
def vOf (s : St) : BitVec 32 :=
  (ror s.a 2 ^^^ ror s.a 13 ^^^ ror s.a 22) + (s.a &&& s.b ^^^ s.a &&& s.c ^^^ s.b &&& s.c)
def step (s : St) (k x : BitVec 32) : St :=
  { a := uOf s k x + vOf s, b := s.a, c := s.b, d := s.c, e := s.d + uOf s k x, f := s.e, g := s.f, h := s.g }

/-- The word behind those of l: of l's length 16 or more. -/
def nextWord (l : List (BitVec 32)) : BitVec 32 :=
  let n := l.length
  let x := l.getD (n - 15) 0
  let y := l.getD (n - 2) 0
  l.getD (n - 16) 0 + (ror x 7 ^^^ ror x 18 ^^^ x >>> 3) + l.getD (n - 7) 0 + (ror y 17 ^^^ ror y 19 ^^^ y >>> 10)
/-- The first n words of a block whose own sixteen are m. -/
def sched (m : Nat → BitVec 32) : Nat → List (BitVec 32)
  | 0 => []
  | n + 1 => sched m n ++ [if n < 16 then m n else nextWord (sched m n)]
def ww (m : Nat → BitVec 32) (t : Nat) : BitVec 32 := (sched m (t + 1)).getD t 0
/-- The copy behind n rounds. -/
def rounds (m : Nat → BitVec 32) (s : St) : Nat → St
  | 0 => s
  | n + 1 => step (rounds m s n) (kk n) (ww m n)
def St.add (s t : St) : St :=
  { a := s.a + t.a, b := s.b + t.b, c := s.c + t.c, d := s.d + t.d, e := s.e + t.e, f := s.f + t.f, g := s.g + t.g, h := s.h + t.h }
/-- A block taken in. -/
def take (s : St) (m : Nat → BitVec 32) : St := s.add (rounds m s 64)
def St.get (s : St) : Nat → BitVec 32
  | 0 => s.a | 1 => s.b | 2 => s.c | 3 => s.d | 4 => s.e | 5 => s.f | 6 => s.g | _ => s.h
def first : St := { a := hh 0, b := hh 1, c := hh 2, d := hh 3, e := hh 4, f := hh 5, g := hh 6, h := hh 7 }

theorem getD_left {α : Type} (l r : List α) (i : Nat) (d : α) (h : i < l.length) : (l ++ r).getD i d = l.getD i d := by
  simp [List.getD_eq_getElem?_getD, List.getElem?_append_left h]
theorem getD_end {α : Type} (l : List α) (x : α) (i : Nat) (d : α) (h : l.length = i) : (l ++ [x]).getD i d = x := by
  subst h; simp [List.getD_eq_getElem?_getD]
theorem St.ext_get {s t : St} (h : ∀ i, i < 8 → s.get i = t.get i) : s = t := by
  obtain ⟨a, b, c, d, e, f, g, k⟩ := s
  obtain ⟨a', b', c', d', e', f', g', k'⟩ := t
  have h0 : a = a' := h 0 (by omega)
  have h1 : b = b' := h 1 (by omega)
  have h2 : c = c' := h 2 (by omega)
  have h3 : d = d' := h 3 (by omega)
  have h4 : e = e' := h 4 (by omega)
  have h5 : f = f' := h 5 (by omega)
  have h6 : g = g' := h 6 (by omega)
  have h7 : k = k' := h 7 (by omega)
  subst h0 h1 h2 h3 h4 h5 h6 h7; rfl
theorem St.get_add (s t : St) (i : Nat) : (s.add t).get i = s.get i + t.get i := by
  match i with
  | 0 => rfl | 1 => rfl | 2 => rfl | 3 => rfl | 4 => rfl | 5 => rfl | 6 => rfl | n + 7 => rfl
theorem sched_length (m : Nat → BitVec 32) : ∀ n, (sched m n).length = n
  | 0 => rfl
  | n + 1 => by rw [sched, List.length_append, sched_length m n]; rfl
theorem sched_get (m : Nat → BitVec 32) : ∀ n t, t < n → (sched m n).getD t 0 = ww m t
  | 0, _, h => absurd h (by omega)
  | n + 1, t, h => by
    by_cases e : t = n
    · subst e; rfl
    · rw [sched, getD_left _ _ _ _ (by rw [sched_length]; omega)]
      exact sched_get m n t (by omega)
theorem ww_own (m : Nat → BitVec 32) (t : Nat) (h : t < 16) : ww m t = m t := by
  have hl := sched_length m t
  rw [ww, sched, if_pos h, getD_end _ _ _ _ hl]
theorem ww_next (m : Nat → BitVec 32) (t : Nat) (h : ¬ t < 16) :
    ww m t = ww m (t - 16) + (ror (ww m (t - 15)) 7 ^^^ ror (ww m (t - 15)) 18 ^^^ (ww m (t - 15)) >>> 3) + ww m (t - 7) + (ror (ww m (t - 2)) 17 ^^^ ror (ww m (t - 2)) 19 ^^^ (ww m (t - 2)) >>> 10) := by
  have hl := sched_length m t
  have e : ww m t = nextWord (sched m t) := by
    rw [ww, sched, if_neg h, getD_end _ _ _ _ hl]
  rw [e, nextWord]
  simp only [hl]
  rw [sched_get m t _ (by omega), sched_get m t _ (by omega), sched_get m t _ (by omega), sched_get m t _ (by omega)]

/-! ### Bytes -/
def w8 (b : UInt8) : BitVec 32 := BitVec.ofNat 32 b.toNat
theorem V_w8 (b : UInt8) : V (w8 b) = (b.toNat : Int) := V_num _ (by have := b.toNat_lt; omega)
theorem V_byte (b : UInt8) : (b.toNat : Int) % (4294967296 : Int) = V (w8 b) := by rw [V_w8]; have := b.toNat_lt; omega
theorem V_byte' (b : UInt8) : IntKind.u32.wrap (b.toNat : Int) = V (w8 b) := by rw [IntKind.wrap_u32', V_byte]
theorem V_mul24 (x : BitVec 32) : (V x * (16777216 : Int)) % (4294967296 : Int) = V (x <<< 24) := V_shl' x 24
theorem V_mul16 (x : BitVec 32) : (V x * (65536 : Int)) % (4294967296 : Int) = V (x <<< 16) := V_shl' x 16
theorem V_mul8 (x : BitVec 32) : (V x * (256 : Int)) % (4294967296 : Int) = V (x <<< 8) := V_shl' x 8
/-- Word i of the bytes f, the highest byte first. -/
def wordOf (f : Nat → UInt8) (i : Nat) : BitVec 32 := w8 (f (4 * i)) <<< 24 ||| w8 (f (4 * i + 1)) <<< 16 ||| w8 (f (4 * i + 2)) <<< 8 ||| w8 (f (4 * i + 3))
end Go.Proofs.YtdmbombjkinboaaGreat
namespace Go.Proofs.YtdmbombjkinboaaGreat
namespace Zc

/-- What is turned. -/
def T : BitVec 32 := 3988292384#32
/-- The register behind a bit 0. -/
def S (r : BitVec 32) : BitVec 32 := (r >>> 1) ^^^ (bif r.getLsbD 0 then T else 0#32)
/-- The register behind n bits 0. -/
def Sn : Nat → BitVec 32 → BitVec 32
  | 0, r => r
  | n + 1, r => S (Sn n r)

theorem Sn_add (m : Nat) : ∀ (n : Nat) (r : BitVec 32), Sn (m + n) r = Sn m (Sn n r) := by
  induction m with
  | zero => intro n r; rw [Nat.zero_add]; rfl
  | succ m ih => intro n r; rw [Nat.succ_add, Sn, ih]; rfl
theorem Sn_succ (n : Nat) (r : BitVec 32) : Sn (n + 1) r = Sn n (S r) := Sn_add n 1 r
theorem S_xor (a b : BitVec 32) : S (a ^^^ b) = S a ^^^ S b := by
  unfold S
  rw [BitVec.ushiftRight_xor_distrib, BitVec.getLsbD_xor]
  cases a.getLsbD 0 <;> cases b.getLsbD 0 <;> simp only [Bool.xor_false, Bool.xor_true, Bool.not_true, Bool.not_false, cond_true, cond_false, BitVec.xor_zero]
  · ac_rfl
  · ac_rfl
  · rw [show a >>> 1 ^^^ T ^^^ (b >>> 1 ^^^ T) = a >>> 1 ^^^ b >>> 1 ^^^ (T ^^^ T) from by ac_rfl, BitVec.xor_self, BitVec.xor_zero]
theorem Sn_xor (n : Nat) (a b : BitVec 32) : Sn n (a ^^^ b) = Sn n a ^^^ Sn n b := by
  induction n with
  | zero => rfl
  | succ n ih => rw [Sn, ih, S_xor]; rfl
theorem S_zero : S 0#32 = 0#32 := by decide
theorem Sn_zero (n : Nat) : Sn n 0#32 = 0#32 := by
  induction n with
  | zero => rfl
  | succ n ih => rw [Sn, ih, S_zero]
theorem shr_of_even (r : BitVec 32) (h : r.getLsbD 0 = false) (h2 : r >>> 1 = 0#32) : r = 0#32 := by
  apply BitVec.eq_of_getLsbD_eq
  intro i hi
  rw [BitVec.getLsbD_zero]
  cases i with
  | zero => exact h
  | succ i =>
    have := congrArg (fun x => x.getLsbD i) h2
    simpa [BitVec.getLsbD_ushiftRight, Nat.add_comm] using this
theorem S_eq_zero (r : BitVec 32) (h : S r = 0#32) : r = 0#32 := by
  unfold S at h
  cases hb : r.getLsbD 0 with
  | false =>
    rw [hb, cond_false, BitVec.xor_zero] at h
    exact shr_of_even r hb h
  | true =>
    rw [hb, cond_true] at h
    have := congrArg (fun x => x.getLsbD 31) h
    simp [T, BitVec.getLsbD_of_ge] at this
theorem Sn_eq_zero (n : Nat) (r : BitVec 32) (h : Sn n r = 0#32) : r = 0#32 := by
  induction n with
  | zero => exact h
  | succ n ih => exact ih (S_eq_zero _ h)

/-- A bit taken in. -/
def step (r b : BitVec 32) : BitVec 32 := S (r ^^^ b &&& 1#32)
/-- What is even goes down by itself. -/
theorem S_even (x : BitVec 32) (h : x.getLsbD 0 = false) : S x = x >>> 1 := by
  unfold S; rw [h, cond_false, BitVec.xor_zero]
theorem S_half (r x : BitVec 32) : S (r ^^^ x) = step r x ^^^ x >>> 1 := by
  have e : x = (x &&& 1#32) ^^^ (x >>> 1) <<< 1 := by
    apply BitVec.eq_of_getLsbD_eq
    intro i hi
    simp only [BitVec.getLsbD_xor, BitVec.getLsbD_and, BitVec.getLsbD_shiftLeft, BitVec.getLsbD_ushiftRight]
    cases i with
    | zero => simp
    | succ i => simp [hi, Nat.add_comm 1 i]
  have e2 : S ((x >>> 1) <<< 1) = x >>> 1 := by
    rw [S_even _ (by simp)]
    apply BitVec.eq_of_getLsbD_eq
    intro i hi
    simp only [BitVec.getLsbD_shiftLeft, BitVec.getLsbD_ushiftRight]
    by_cases h31 : 1 + i < 32
    · simp [h31]
    · simp [h31, BitVec.getLsbD_of_ge x (1 + i) (by omega)]
  rw [show r ^^^ x = r ^^^ (x &&& 1#32) ^^^ (x >>> 1) <<< 1 from by rw [BitVec.xor_assoc, ← e], S_xor, e2]
  rfl
/-- The register behind the n lowest bits of x. -/
def bits (r x : BitVec 32) : Nat → BitVec 32
  | 0 => r
  | n + 1 => step (bits r x n) (x >>> n)
theorem shr_shr (x : BitVec 32) (n : Nat) : x >>> n >>> 1 = x >>> (n + 1) := (BitVec.shiftRight_add x n 1).symm
theorem bits_eq (r x : BitVec 32) (n : Nat) : bits r x n ^^^ x >>> n = Sn n (r ^^^ x) := by
  induction n with
  | zero => simp [bits, Sn]
  | succ n ih => rw [Sn, ← ih, S_half, shr_shr]; rfl
theorem shr_big (x : BitVec 32) (n : Nat) (h : x.toNat < 2 ^ n) : x >>> n = 0#32 := by
  apply BitVec.eq_of_toNat_eq
  rw [BitVec.toNat_ushiftRight, Nat.shiftRight_eq_div_pow, Nat.div_eq_of_lt h]; rfl
theorem bits_all (r x : BitVec 32) (n : Nat) (h : x.toNat < 2 ^ n) : bits r x n = Sn n (r ^^^ x) := by
  have := bits_eq r x n
  rwa [shr_big x n h, BitVec.xor_zero] at this

/-- A byte taken in. -/
def byte (r : BitVec 32) (c : UInt8) : BitVec 32 := Sn 8 (r ^^^ w8 c)
/-- Bytes taken in. -/
def reg (r : BitVec 32) (l : List UInt8) : BitVec 32 := l.foldl byte r
theorem w8_lt (c : UInt8) : (w8 c).toNat < 2 ^ 8 := by
  unfold w8; rw [BitVec.toNat_ofNat]; have := c.toNat_lt; omega
theorem byte_bits (r : BitVec 32) (c : UInt8) : bits r (w8 c) 8 = byte r c := bits_all r _ 8 (w8_lt c)
theorem reg_append (r : BitVec 32) (l k : List UInt8) : reg r (l ++ k) = reg (reg r l) k := List.foldl_append
theorem reg_snoc (r : BitVec 32) (l : List UInt8) (c : UInt8) : reg r (l ++ [c]) = byte (reg r l) c := by rw [reg_append]; rfl
/-- The sum. -/
def more (s : BitVec 32) (l : List UInt8) : BitVec 32 := ~~~(reg (~~~s) l)
def sum (l : List UInt8) : BitVec 32 := more 0#32 l
theorem not_not (a : BitVec 32) : ~~~(~~~a) = a := BitVec.not_not
theorem more_more (s : BitVec 32) (l k : List UInt8) : more (more s l) k = more s (l ++ k) := by
  unfold more; rw [not_not, reg_append]
theorem more_nil (s : BitVec 32) : more s [] = s := not_not s

/-! ### Four bits at once -/
theorem nibble (r : BitVec 32) : Sn 4 r = r >>> 4 ^^^ Sn 4 (r &&& 15#32) := by
  have h := bits_eq 0#32 r 4
  have h2 := bits_eq 0#32 (r &&& 15#32) 4
  rw [BitVec.zero_xor] at h h2
  rw [← h, ← h2, shr_big (r &&& 15#32) 4 (by rw [BitVec.toNat_and]; exact Nat.lt_of_le_of_lt Nat.and_le_right (by decide)), BitVec.xor_zero, BitVec.xor_comm]
  have e : ∀ n, n ≤ 4 → bits 0#32 r n = bits 0#32 (r &&& 15#32) n := by
    intro n hn
    induction n with
    | zero => rfl
    | succ n ih =>
      rw [bits, bits, ih (by omega)]
      unfold step
      congr 2
      apply BitVec.eq_of_getLsbD_eq
      intro i hi
      simp only [BitVec.getLsbD_and, BitVec.getLsbD_ushiftRight]
      by_cases hi0 : i = 0
      · subst hi0
        match n, hn with
        | 0, _ => simp
        | 1, _ => simp
        | 2, _ => simp
        | 3, _ => simp
      · simp [hi0]
  rw [e 4 (Nat.le_refl _)]
/-- What the table holds. -/
def tab (i : Nat) : BitVec 32 := Sn 4 (BitVec.ofNat 32 i)
theorem byte_nibbles (r : BitVec 32) (c : UInt8) :
    (let a := r ^^^ w8 c; let b := a >>> 4 ^^^ Sn 4 (a &&& 15#32); b >>> 4 ^^^ Sn 4 (b &&& 15#32)) = byte r c := by
  simp only [← nibble]
  rw [byte, show 8 = 4 + 4 from rfl, Sn_add]

/-! ### Sums add up -/
theorem byte_xor (a b : BitVec 32) (c d : UInt8) : byte (a ^^^ b) (c ^^^ d) = byte a c ^^^ byte b d := by
  unfold byte
  have : w8 (c ^^^ d) = w8 c ^^^ w8 d := by
    unfold w8
    apply BitVec.eq_of_toNat_eq
    rw [BitVec.toNat_xor, BitVec.toNat_ofNat, BitVec.toNat_ofNat, BitVec.toNat_ofNat, UInt8.toNat_xor]
    have h1 := c.toNat_lt
    have h2 := d.toNat_lt
    rw [Nat.mod_eq_of_lt (by omega : c.toNat < 2 ^ 32), Nat.mod_eq_of_lt (by omega : d.toNat < 2 ^ 32), Nat.mod_eq_of_lt]
    exact Nat.lt_trans (Nat.xor_lt_two_pow (n := 8) (by omega) (by omega)) (by decide)
  rw [this, ← Sn_xor]
  congr 1
  ac_rfl
def zip2 (l k : List UInt8) : List UInt8 := List.zipWith (· ^^^ ·) l k
theorem reg_xor : ∀ (l k : List UInt8) (a b : BitVec 32), l.length = k.length → reg (a ^^^ b) (zip2 l k) = reg a l ^^^ reg b k
  | [], [], _, _, _ => rfl
  | c :: l, d :: k, a, b, h => by
    show reg (byte (a ^^^ b) (c ^^^ d)) (zip2 l k) = _
    rw [byte_xor, reg_xor l k _ _ (by simpa using h)]
    rfl
theorem byte_zero (r : BitVec 32) : byte r 0 = Sn 8 r := by
  unfold byte; rw [show w8 0 = 0#32 from rfl, BitVec.xor_zero]
theorem reg_zeros (n : Nat) (r : BitVec 32) : reg r (List.replicate n 0) = Sn (8 * n) r := by
  induction n with
  | zero => rfl
  | succ n ih =>
    rw [List.replicate_succ', reg_snoc, ih, byte_zero, ← Sn_add]
    congr 1; omega
theorem zip2_zeros : ∀ (l : List UInt8), zip2 l (List.replicate l.length 0) = l
  | [] => rfl
  | c :: l => by
    rw [List.length_cons, List.replicate_succ]
    show (c ^^^ 0) :: zip2 l _ = _
    rw [zip2_zeros l, UInt8.xor_zero]
/-- Another beginning of the register. -/
theorem reg_from (a b : BitVec 32) (l : List UInt8) : reg (a ^^^ b) l = reg a l ^^^ Sn (8 * l.length) b := by
  have h := reg_xor l (List.replicate l.length 0) a b (by simp)
  rwa [zip2_zeros, reg_zeros] at h

/-! ### Bytes 0 -/
def zeros (s : BitVec 32) (n : Nat) : BitVec 32 := ~~~(Sn (8 * n) (~~~s))
theorem zeros_add (s : BitVec 32) (m n : Nat) : zeros (zeros s m) n = zeros s (m + n) := by
  unfold zeros; rw [not_not, ← Sn_add]; congr 2; omega
theorem zeros_zero (s : BitVec 32) : zeros s 0 = s := not_not s
theorem zeros_more (s : BitVec 32) (n : Nat) : zeros s n = more s (List.replicate n 0) := by
  unfold zeros more; rw [reg_zeros]
theorem combine_eq (a b : List UInt8) : zeros (sum a) b.length ^^^ sum b ^^^ zeros 0#32 b.length = sum (a ++ b) := by
  unfold zeros sum more
  rw [not_not, reg_append]
  generalize ~~~(0#32) = F
  have h := reg_from F (reg F a ^^^ F) b
  rw [show F ^^^ (reg F a ^^^ F) = reg F a ^^^ (F ^^^ F) from by ac_rfl, BitVec.xor_self, BitVec.xor_zero, Sn_xor] at h
  rw [h]
  generalize Sn _ (reg F a) = p
  generalize Sn _ F = q
  generalize reg F b = r
  rw [← BitVec.allOnes_xor, ← BitVec.allOnes_xor, ← BitVec.allOnes_xor, ← BitVec.allOnes_xor]
  generalize BitVec.allOnes 32 = o
  rw [show o ^^^ p ^^^ (o ^^^ r) ^^^ (o ^^^ q) = (o ^^^ o) ^^^ (o ^^^ (r ^^^ (p ^^^ q))) from by ac_rfl, BitVec.xor_self, BitVec.zero_xor]

/-! ### Products -/
def H : BitVec 32 := 2147483648#32
/-- The product of the n highest bits of a, and b. -/
def prod (a b : BitVec 32) : Nat → BitVec 32
  | 0 => 0#32
  | n + 1 => prod a b n ^^^ (bif a.getLsbD (31 - n) then Sn n b else 0#32)
theorem Sn_high : ∀ n, n < 32 → Sn n H = 1#32 <<< (31 - n) := by decide +kernel
/-- a's n highest bits. -/
def high (a : BitVec 32) : Nat → BitVec 32
  | 0 => 0#32
  | n + 1 => high a n ^^^ (bif a.getLsbD (31 - n) then 1#32 <<< (31 - n) else 0#32)
theorem high_get (a : BitVec 32) (i : Nat) : ∀ n, n ≤ 32 → (high a n).getLsbD i = (decide (32 - n ≤ i) && a.getLsbD i)
  | 0, _ => by
    rw [high, BitVec.getLsbD_zero]
    by_cases h : 32 ≤ i
    · rw [BitVec.getLsbD_of_ge a i h]; simp
    · simp [h]
  | n + 1, hn => by
    rw [high, BitVec.getLsbD_xor, high_get a i n (by omega)]
    by_cases e : i = 31 - n
    · subst e
      rw [decide_eq_false (by omega : ¬ 32 - n ≤ 31 - n), decide_eq_true (by omega : 32 - (n + 1) ≤ 31 - n)]
      cases a.getLsbD (31 - n)
      · simp
      · simp; omega
    · have : (bif a.getLsbD (31 - n) then 1#32 <<< (31 - n) else 0#32).getLsbD i = false := by
        cases a.getLsbD (31 - n)
        · simp
        · simp only [cond_true, BitVec.getLsbD_shiftLeft, BitVec.getLsbD_one]
          by_cases h1 : i < 31 - n
          · simp [h1]
          · have : ¬ i - (31 - n) = 0 := by omega
            simp [this]
      rw [this, Bool.xor_false]
      by_cases h1 : 32 - n ≤ i
      · rw [decide_eq_true h1, decide_eq_true (by omega : 32 - (n + 1) ≤ i)]
      · rw [decide_eq_false h1, decide_eq_false (by omega : ¬ 32 - (n + 1) ≤ i)]
theorem high_all (a : BitVec 32) : high a 32 = a := by
  apply BitVec.eq_of_getLsbD_eq
  intro i hi
  rw [high_get a i 32 (Nat.le_refl _)]; simp
theorem prod_power (a : BitVec 32) (k : Nat) : ∀ n, n ≤ 32 → prod a (Sn k H) n = Sn k (high a n)
  | 0, _ => (Sn_zero k).symm
  | n + 1, hn => by
    rw [prod, high, prod_power a k n (by omega), Sn_xor, ← Sn_add, Nat.add_comm, Sn_add, Sn_high n (by omega)]
    cases a.getLsbD (31 - n)
    · rw [cond_false, cond_false, Sn_zero]
    · rfl
/-- A product with a power. -/
theorem prod_all (a : BitVec 32) (k : Nat) : prod a (Sn k H) 32 = Sn k a := by rw [prod_power a k 32 (Nat.le_refl _), high_all]
theorem prod_shl (a b : BitVec 32) (n : Nat) (h : n < 32) : prod a b (n + 1) = prod a b n ^^^ (bif (a <<< n).getLsbD 31 then Sn n b else 0#32) := by
  rw [prod, BitVec.getLsbD_shiftLeft]
  simp [show ¬ 31 < n by omega]
/-- From where on nothing is left, the product is whole. -/
theorem prod_done (a b : BitVec 32) (n : Nat) (hn : n ≤ 32) (h : a <<< n = 0#32) : prod a b n = prod a b 32 := by
  have hz : ∀ m, n ≤ m → m ≤ 32 → prod a b m = prod a b n := by
    intro m h1 h2
    induction m with
    | zero => rw [show n = 0 by omega]
    | succ m ih =>
      by_cases e : n = m + 1
      · rw [e]
      · rw [prod_shl a b m (by omega), ih (by omega) (by omega)]
        have : (a <<< m).getLsbD 31 = false := by
          have h0 := congrArg (fun x => x.getLsbD (31 - m + n)) h
          simp only [BitVec.getLsbD_shiftLeft, BitVec.getLsbD_zero] at h0 ⊢
          rw [show 31 - m + n - n = 31 - m by omega, decide_eq_true (by omega : 31 - m + n < 32), decide_eq_false (by omega : ¬ 31 - m + n < n)] at h0
          rw [decide_eq_false (by omega : ¬ 31 < m)]
          simpa using h0
        rw [this, cond_false, BitVec.xor_zero]
  exact (hz 32 hn (Nat.le_refl _)).symm
theorem shl_32 (a : BitVec 32) : a <<< 32 = 0#32 := by
  apply BitVec.eq_of_getLsbD_eq
  intro i hi
  simp [hi]
end Zc
end Go.Proofs.YtdmbombjkinboaaGreat
namespace Go.Proofs.YtdmbombjkinboaaGreat
open Go.RowKit

theorem V_and1 (x : BitVec 32) : bits .and .u32 (V x) 1 = V (x &&& 1#32) := V_and x 1#32
theorem V_xorT (x : BitVec 32) : bits .xor .u32 (V x) 3988292384 = V (x ^^^ Zc.T) := V_xor x Zc.T
theorem V_div2 (x : BitVec 32) : V x / (2 : Int) = V (x >>> 1) := V_shr x 1
theorem V_div16 (x : BitVec 32) : V x / (16 : Int) = V (x >>> 4) := V_shr x 4
theorem V_and15 (x : BitVec 32) : bits .and .u32 (V x) 15 = V (x &&& 15#32) := V_and x 15#32
theorem V_andH (x : BitVec 32) : bits .and .u32 (V x) 2147483648 = V (x &&& Zc.H) := V_and x Zc.H
attribute [local go_sem] V_xor V_and V_or V_not V_not' V_and1 V_xorT V_div2 V_div16 V_and15

theorem step_ne (r b : BitVec 32) (h : (r &&& 1#32) ≠ (b &&& 1#32)) : r >>> 1 ^^^ Zc.T = Zc.step r b := by
  unfold Zc.step Zc.S
  have h1 : (r ^^^ b &&& 1#32).getLsbD 0 = true := by
    cases e : (r ^^^ b &&& 1#32).getLsbD 0 with
    | true => rfl
    | false =>
      exfalso; apply h
      apply BitVec.eq_of_getLsbD_eq
      intro i hi
      cases i with
      | zero => simp at e ⊢; cases hr : r.getLsbD 0 <;> cases hb : b.getLsbD 0 <;> simp_all
      | succ i => simp
  rw [h1, cond_true]
  congr 1
  apply BitVec.eq_of_getLsbD_eq
  intro i hi
  simp [BitVec.getLsbD_ushiftRight]
theorem step_eq (r b : BitVec 32) (h : (r &&& 1#32) = (b &&& 1#32)) : r >>> 1 = Zc.step r b := by
  unfold Zc.step Zc.S
  have h1 : (r ^^^ b &&& 1#32).getLsbD 0 = false := by
    have h := congrArg (fun x => x.getLsbD 0) h
    simp at h ⊢
    rw [h]
  rw [h1, cond_false, BitVec.xor_zero]
  apply BitVec.eq_of_getLsbD_eq
  intro i hi
  simp [BitVec.getLsbD_ushiftRight]
theorem V_of_int (b : Int) : b % 4294967296 = V (BitVec.ofInt 32 b) := by
  unfold V
  rw [BitVec.toNat_ofInt]
  omega
theorem V_ne {x y : BitVec 32} (h : x ≠ y) : (V x != V y) = true ∧ (V x == V y) = false := by
  have : V x ≠ V y := fun e => h (V_inj e)
  simp [this]
theorem V_eq {x y : BitVec 32} (h : x = y) : (V x != V y) = false ∧ (V x == V y) = true := by simp [h]

set_option maxHeartbeats 400000 in
theorem step_any (r : BitVec 32) (b : Int) (w : World) :
    Calls Tryz.prog 124 #[.int .u32 (V r), .int .i64 b] w fun e w' => e = .returned (.int .u32 (V (Zc.step r (BitVec.ofInt 32 b)))) ∧ w = w' := by
  obtain ⟨c, hc⟩ : ∃ c, c = BitVec.ofInt 32 b := ⟨_, rfl⟩
  have hw : IntKind.u32.wrap b = V c := by rw [IntKind.wrap_u32', V_of_int, hc]
  have hm : b % 4294967296 = V c := by rw [V_of_int, hc]
  rw [← hc]
  clear hc
  by_cases h : (r &&& 1#32) = (c &&& 1#32)
  · have hr := step_eq r c h
    obtain ⟨h1, h2⟩ := V_eq h
    clear h
    have HR := Lib.hid hr
    clear hr
    go_enter Tryz.func124, Tryz.ntmps124
    go_wp2
    go_ret
    exact ⟨by rw [HR.out]; rfl, rfl⟩
  · have hr := step_ne r c h
    obtain ⟨h1, h2⟩ := V_ne h
    clear h
    have HR := Lib.hid hr
    clear hr
    go_enter Tryz.func124, Tryz.ntmps124
    go_wp2
    go_ret
    exact ⟨by rw [HR.out]; rfl, rfl⟩
theorem step_zero (r : BitVec 32) : Zc.step r (BitVec.ofInt 32 0) = Zc.S r := by
  unfold Zc.step; rw [show BitVec.ofInt 32 0 &&& 1#32 = 0#32 from by decide, BitVec.xor_zero]
theorem step0_any (r : BitVec 32) (w : World) :
    Calls Tryz.prog 124 #[.int .u32 (V r), .int .i64 0] w fun e w' => e = .returned (.int .u32 (V (Zc.S r))) ∧ w = w' := by
  rw [← step_zero r]; exact step_any r 0 w

set_option maxHeartbeats 400000 in
theorem zeroBits_any (r : BitVec 32) (n : Nat) (hn : n ≤ 9223372036854775807) (w : World) :
    Calls Tryz.prog 107 #[.int .u32 (V r), .int .i64 n] w fun e w' => e = .returned (.int .u32 (V (Zc.Sn n r))) ∧ w = w' := by
  go_enter Tryz.func107, Tryz.ntmps107
  go_wp2
  go_loop [0, 6] (fun a i => ∃ k : Nat, k ≤ n ∧ i = .int .i64 k ∧ a = .int .u32 (V (Zc.Sn k r))) (fun _ i => n - (intOf i).toNat)
  case atStart => exact ⟨0, Nat.zero_le _, rfl, rfl⟩
  case round =>
    obtain ⟨k, hk, rfl, rfl⟩ := hrel
    obtain ⟨q, hq⟩ : ∃ q, q = Zc.Sn k r := ⟨_, rfl⟩
    rw [← hq]
    have HQ := Lib.hid hq
    clear hq
    by_cases hlt : k < n
    · go_wp2_with (go_at_call 124; refine (step0_any _ _).mono ?_; rintro e w' ⟨rfl, rfl⟩)
      go_round
      case rel => exact ⟨k + 1, by omega, by go_num, by rw [HQ.out]; rfl⟩
      case measure => simp [intOf]; omega
    · have hkn : k = n := by omega
      have HK := Lib.hid hkn
      clear hkn
      go_wp2
      go_ret
      exact ⟨by rw [HQ.out, HK.out]; rfl, rfl⟩
end Go.Proofs.YtdmbombjkinboaaGreat
namespace Go.Proofs.YtdmbombjkinboaaGreat
open Go.RowKit
attribute [local go_sem] V_xor V_and V_or V_not V_not' V_and1 V_xorT V_div2 V_div16 V_and15 V_andH

theorem V_shl1 (x : BitVec 32) : IntKind.u32.wrap (V x * 2) = V (x <<< 1) := V_shl x 1
theorem V_shl1' (x : BitVec 32) : V x * 2 % 4294967296 = V (x <<< 1) := V_shl' x 1
attribute [local go_sem] V_shl1 V_shl1'
theorem and_H_ne (x : BitVec 32) (h : x.getLsbD 31 = true) : V (x &&& Zc.H) ≠ 0 := by
  intro e
  have : x &&& Zc.H = 0#32 := V_inj (y := 0#32) e
  have := congrArg (fun y => y.getLsbD 31) this
  rw [BitVec.getLsbD_and, h, BitVec.getLsbD_zero] at this
  exact absurd this (by decide)
theorem and_H_eq (x : BitVec 32) (h : x.getLsbD 31 = false) : x &&& Zc.H = 0#32 := by
  apply BitVec.eq_of_getLsbD_eq
  intro i hi
  rw [BitVec.getLsbD_and, BitVec.getLsbD_zero]
  by_cases e : i = 31
  · subst e; rw [h]; rfl
  · have : ∀ i, i < 32 → i ≠ 31 → Zc.H.getLsbD i = false := by decide
    rw [this i hi e, Bool.and_false]
theorem V_zero0 : V 0#32 = 0 := rfl
theorem V_pos_ne {x : BitVec 32} (h : x ≠ 0#32) : V x ≠ 0 := fun e => h (V_inj (y := 0#32) e)

/-- What holds wherever the run jumps back: m of the number is left; the register, behind as many bits 0 as the power has, m times, is the one that is asked for. -/
def ZJ (r : BitVec 32) (G : BitVec 32) (w : World) (a : Act) (w' : World) : Prop :=
  ∃ (m k : Nat) (q : BitVec 32) (u7 u8 u9 u10 u11 u12 u13 u14 u15 u16 u17 u18 u19 u20 u21 u22 u23 u24 u25 u26 u27 : Value), a = { tmps := #[.int .u32 (V r), .int .i64 (m : Int), undef, undef, .int .u32 0, .int .u32 (V q), .int .u32 (V (Zc.Sn k Zc.H)), u7, u8, u9, u10, u11, u12, u13, u14, u15, u16, u17, u18, u19, u20, u21, u22, u23, u24, u25, u26, u27], defers := [] } ∧ 0 < m ∧ m ≤ 9223372036854775807 ∧ Zc.Sn (k * m) q = G ∧ w = w'
theorem zj_even {m k : Nat} {q G : BitVec 32} (h : Zc.Sn (k * m) q = G) (hm : m % 2 = 0) : Zc.Sn ((k + k) * (m / 2)) q = G := by
  rw [← h]; congr 1
  rw [← Nat.two_mul, Nat.mul_comm 2 k, Nat.mul_assoc, show 2 * (m / 2) = m by omega]
theorem zj_odd {m k : Nat} {q G : BitVec 32} (h : Zc.Sn (k * m) q = G) (hm : m % 2 = 1) : Zc.Sn ((k + k) * (m / 2)) (Zc.Sn k q) = G := by
  rw [← h, ← Zc.Sn_add]; congr 1
  rw [← Nat.two_mul, Nat.mul_comm 2 k, Nat.mul_assoc]
  have : k * m = k * (2 * (m / 2) + 1) := by congr 1; omega
  rw [this, Nat.mul_add, Nat.mul_one]

theorem i64_and1 (n : Int) : bits .and .i64 n 1 = n % 2 := by
  have h1 : (BitVec.ofInt 64 1).toNat = 2 ^ 1 - 1 := by decide
  have key : (BitVec.ofInt 64 n &&& BitVec.ofInt 64 1).toNat = (n % ((2 ^ 64 : Nat) : Int)).toNat % 2 ^ 1 := by
    rw [BitVec.toNat_and, BitVec.toNat_ofInt, h1, Nat.and_two_pow_sub_one_eq_mod]
  show IntKind.i64.wrap ((BitVec.ofInt 64 n &&& BitVec.ofInt 64 1).toNat : Nat) = n % 2
  rw [key, IntKind.wrap_i64]
  omega
theorem zj_done {m k : Nat} {q G : BitVec 32} (h : Zc.Sn (k * m) q = G) (hm : m % 2 = 1) (h2 : m / 2 = 0) : Zc.Sn k q = G := by
  rw [← h]; congr 1; rw [show m = 1 by omega, Nat.mul_one]

theorem zb8 (k : Nat) (hk : k = 8) (w : World) :
    Calls Tryz.prog 107 #[.int .u32 2147483648, .int .i64 8] w fun e w' => e = .returned (.int .u32 (V (Zc.Sn k Zc.H))) ∧ w = w' := by
  subst hk; exact zeroBits_any Zc.H 8 (by decide) w

end Go.Proofs.YtdmbombjkinboaaGreat
namespace Go.Proofs.YtdmbombjkinboaaGreat
open Go.RowKit
attribute [local go_sem] V_xor V_and V_or V_not V_not' V_and1 V_xorT V_div2 V_div16 V_and15

theorem V_xorb (x : BitVec 32) (b : UInt8) : bits .xor .u32 (V x) (b.toNat : Int) = V (x ^^^ w8 b) := by rw [← V_w8, V_xor]
theorem V_bytew (b : UInt8) : IntKind.u32.wrap (b.toNat : Int) = (b.toNat : Int) := by rw [V_byte', V_w8]
attribute [local go_sem] V_xorb V_bytew

/-- What holds of memory at the head of round k of the first loop. -/
def TabInv (n : Nat) (w wr : World) (k : Nat) : Prop :=
  (∃ ws : Array Value, wr.heap[n]? = some (.cells ws 164 (0, 0)) ∧ ws.size = 16 ∧ ∀ j, j < k → ws[j]? = some (.int .u32 (V (Zc.tab j)))) ∧ Below n w wr
theorem TabInv.start (w : World) (cs : Array Value) (h : cs.size = 16) : TabInv w.heap.size w (w.alloc (.cells cs 164)) 0 :=
  ⟨⟨cs, heap_alloc_new _ _, h, fun j hj => absurd hj (by omega)⟩, (Below.refl _ _).alloc (Nat.le_refl _) _⟩
theorem TabInv.free {n : Nat} {w wr : World} {k : Nat} (h : TabInv n w wr k) (i : Nat) : wr.frozen? ⟨n, i, none⟩ = false := by
  obtain ⟨ws, h1, -⟩ := h.1
  exact frozen_of_row _ _ _ _ _ h1
theorem TabInv.old {n : Nat} {w wr : World} {k : Nat} (h : TabInv n w wr k) (i : Nat) (hi : i < 16) : ∃ v, wr.cell? ⟨n, i, none⟩ = some v := by
  obtain ⟨ws, h1, h2, -⟩ := h.1
  exact ⟨ws[i]'(by omega), by rw [cell_of_row _ _ _ _ _ _ h1, Array.getElem?_eq_getElem (by omega)]⟩
theorem TabInv.cell {n : Nat} {w wr : World} {k : Nat} (h : TabInv n w wr k) (i : Nat) (hi : i < k) : wr.cell? ⟨n, i, none⟩ = some (.int .u32 (V (Zc.tab i))) := by
  obtain ⟨ws, h1, -, h3⟩ := h.1
  rw [cell_of_row _ _ _ _ _ _ h1, h3 i hi]
theorem TabInv.put {n : Nat} {w wr : World} {k : Nat} (h : TabInv n w wr k) (hk : k < 16) :
    TabInv n w (wr.setCell ⟨n, k, none⟩ (.int .u32 (V (Zc.tab k)))) (k + 1) := by
  obtain ⟨⟨ws, h1, h2, h3⟩, hb⟩ := h
  refine ⟨⟨_, heap_setCell_same _ _ _ _ _ _ h1, by simpa using h2, fun j hj => ?_⟩, hb.setCell (Nat.le_refl _) _⟩
  rw [Array.getElem?_setIfInBounds]
  by_cases e : k = j
  · subst e; rw [if_pos rfl, if_pos (by omega)]
  · rw [if_neg e]; exact h3 j (by omega)
theorem TabInv.drew {n : Nat} {w wr : World} {k : Nat} (h : TabInv n w wr k) : TabInv n w wr.drew k := ⟨h.1, h.2.drew⟩

theorem nib (x : BitVec 32) : ∃ m : Nat, V (x &&& 15#32) = (m : Int) ∧ m < 16 ∧ Zc.tab m = Zc.Sn 4 (x &&& 15#32) := by
  refine ⟨(x &&& 15#32).toNat, rfl, ?_, ?_⟩
  · rw [BitVec.toNat_and]; exact Nat.lt_of_le_of_lt Nat.and_le_right (by decide)
  · unfold Zc.tab; rw [BitVec.ofNat_toNat]; simp
theorem zb4 (k : Nat) (hk : k < 16) (w : World) :
    Calls Tryz.prog 107 #[.int .u32 k, .int .i64 4] w fun e w' => e = .returned (.int .u32 (V (Zc.tab k))) ∧ w = w' := by
  have e : ((k : Nat) : Int) = V (BitVec.ofNat 32 k) := (V_num k (by omega)).symm
  rw [e]; exact zeroBits_any _ 4 (by decide) w
theorem take_snoc (s : ByteArray) (k : Nat) (h : k < s.size) : s.data.toList.take (k + 1) = s.data.toList.take k ++ [s[k]] := by
  rw [List.take_succ_eq_append_getElem (by simpa using h)]; rfl

set_option maxHeartbeats 1000000 in
theorem more_any (r : BitVec 32) (s : ByteArray) (hs : s.size ≤ maxLen) (w : World) :
    Calls Tryz.prog 88 #[.int .u32 (V r), .string s] w fun e w' => e = .returned (.int .u32 (V (Zc.more r s.data.toList))) ∧ Below w.heap.size w w' := by
  unfold maxLen at hs
  go_enter Tryz.func88, Tryz.ntmps88
  go_wp2
  go_loopw [6, 9] (fun _ i wr => ∃ k : Nat, k ≤ 16 ∧ i = .int .i64 k ∧ TabInv w.heap.size w wr k) (fun _ i _ => 16 - (intOf i).toNat)
  case atStart => exact ⟨0, by omega, rfl, TabInv.start _ _ rfl⟩
  case round =>
    obtain ⟨k, hk, rfl, hI⟩ := hrel
    have HI := Lib.hid hI
    clear hI
    by_cases hlt : k < 16
    · have hf := HI.out.free k
      obtain ⟨v, hv⟩ := HI.out.old k hlt
      go_wp2_with (first | (go_at_call 107; refine (zb4 k hlt _).mono ?_; rintro e w' ⟨rfl, rfl⟩))
      go_roundw
      case rel => exact ⟨k + 1, by omega, by go_num, HI.out.put hlt⟩
      case measure => simp [intOf]; omega
    · obtain rfl : k = 16 := by omega
      go_wp2
      go_loop [7, 22] (fun a i => ∃ k : Nat, k ≤ s.size ∧ i = .int .i64 k ∧ a = .int .u32 (V (Zc.reg (~~~r) (s.data.toList.take k)))) (fun _ i => s.size - (intOf i).toNat)
      case atStart => exact ⟨0, Nat.zero_le _, rfl, rfl⟩
      case round =>
        obtain ⟨k, hk, rfl, rfl⟩ := hrel
        obtain ⟨q, hq⟩ : ∃ q, q = Zc.reg (~~~r) (s.data.toList.take k) := ⟨_, rfl⟩
        rw [← hq]
        by_cases hlt : k < s.size
        · have hn : Zc.reg (~~~r) (s.data.toList.take (k + 1)) = Zc.byte q s[k] := by rw [take_snoc s k hlt, Zc.reg_snoc, hq]
          have hb := Zc.byte_nibbles q s[k]
          rw [← hn] at hb
          obtain ⟨x, hx⟩ : ∃ x, x = q ^^^ w8 s[k] := ⟨_, rfl⟩
          obtain ⟨m, m1, m2, m3⟩ := nib x
          obtain ⟨y, hy⟩ : ∃ y, y = x >>> 4 ^^^ Zc.tab m := ⟨_, rfl⟩
          obtain ⟨m', m1', m2', m3'⟩ := nib y
          have hz : V (y >>> 4 ^^^ Zc.tab m') = V (Zc.reg (~~~r) (s.data.toList.take (k + 1))) := by
            rw [← hb, m3']; simp only [← hx]; rw [← m3, ← hy]
          have c1 := HI.out.cell m (by omega)
          have c2 := HI.out.cell m' (by omega)
          have HZ := Lib.hid hz
          clear hz hb hn hq m3 m3'
          have hxv : V (q ^^^ w8 s[k]) = V x := by rw [hx]
          have hyv : V (x >>> 4 ^^^ Zc.tab m) = V y := by rw [hy]
          clear hx hy
          go_wp2
          go_round
          case rel => exact ⟨k + 1, by omega, by go_num, by rw [HZ.out]⟩
          case measure => simp [intOf]; omega
        · obtain rfl : k = s.size := by omega
          have HQ := Lib.hid hq
          clear hq
          go_wp2
          go_ret
          exact ⟨by rw [HQ.out, List.take_of_length_le (by simp)]; rfl, HI.out.2⟩
theorem sum_any (s : ByteArray) (hs : s.size ≤ maxLen) (w : World) :
    Calls Tryz.prog 89 #[.string s] w fun e w' => e = .returned (.int .u32 (V (Zc.sum s.data.toList))) ∧ Below w.heap.size w w' := by
  go_enter Tryz.func89, Tryz.ntmps89
  go_wp2_with fail
  refine (more_any 0#32 s hs _).mono ?_
  rintro e w1 ⟨rfl, hb⟩
  go_wp2_with fail
  go_ret
  exact ⟨rfl, hb⟩
theorem sum_v {s : ByteArray} {x : BitVec 32} (hs : s.size ≤ maxLen) (h : x = Zc.sum s.data.toList) (w : World) :
    Calls Tryz.prog 89 #[.string s] w fun e w' => e = .returned (.int .u32 (V x)) ∧ Below w.heap.size w w' := by
  rw [h]; exact sum_any s hs w
/-- crc.Zeros at any number. -/
def zerosI (r : BitVec 32) (n : Int) : BitVec 32 := if n ≤ 0 then r else Zc.zeros r n.toNat
theorem zerosI_nat (r : BitVec 32) (n : Nat) : zerosI r n = Zc.zeros r n := by
  unfold zerosI
  by_cases h : (n : Int) ≤ 0
  · obtain rfl : n = 0 := by omega
    rw [if_pos h, Zc.zeros_zero]
  · rw [if_neg h]; simp
end Go.Proofs.YtdmbombjkinboaaGreat
namespace Go.Proofs.YtdmbombjkinboaaGreat
open Go.RowKit

theorem sum_c {s : ByteArray} {v : Int} (hs : s.size ≤ 100) (h : V (Zc.sum s.data.toList) = v) (w : World) :
    Calls Tryz.prog 89 #[.string s] w fun e w' => e = .returned (.int .u32 v) ∧ Below w.heap.size w w' := by
  rw [← h]; exact sum_any s (by unfold maxLen; omega) w
def a4 : BitVec 32 := Zc.sum [49, 50, 51, 52]
def a5 : BitVec 32 := Zc.sum [53, 54, 55, 56, 57]
theorem v9 : V (Zc.sum [49, 50, 51, 52, 53, 54, 55, 56, 57]) = 3421780262 := by decide +kernel
theorem v0 : V (Zc.sum []) = 0 := by decide +kernel
theorem vc : V (zerosI a4 5 ^^^ a5 ^^^ zerosI 0#32 5) = 3421780262 := by decide +kernel
theorem below_call {A B C : World} (h : Below A.heap.size A B) (k : Below B.heap.size B C) : Below A.heap.size A C := h.trans (k.mono h.size)
theorem u32_of {n : Int} (h : (Lit.int .u32 n).wf = true) : ∃ x : BitVec 32, n = V x := by
  simp only [Lit.wf, Bool.and_eq_true, decide_eq_true_eq] at h
  have h1 : (0 : Int) ≤ n := h.1
  have h2 : n ≤ 4294967295 := h.2
  refine ⟨BitVec.ofNat 32 n.toNat, ?_⟩
  rw [V_num _ (by omega)]; omega
end Go.Proofs.YtdmbombjkinboaaGreat
namespace Go.Proofs.YtdmbombjkinboaaGreat
open Go.RowKit
attribute [local go_sem] V_xor V_and V_or V_not V_not' V_and1 V_xorT V_div2 V_div16 V_and15

theorem low_of (r : BitVec 32) : ((r &&& 1#32) = 0#32 ∧ V r % 2 = 0) ∨ ((r &&& 1#32) = 1#32 ∧ V r % 2 = 1) := by
  have h : (r &&& 1#32).toNat = r.toNat % 2 := by
    rw [BitVec.toNat_and, show (1#32).toNat = 2 ^ 1 - 1 from rfl, Nat.and_two_pow_sub_one_eq_mod]
  unfold V
  rcases Nat.mod_two_eq_zero_or_one r.toNat with e | e
  · exact .inl ⟨BitVec.eq_of_toNat_eq (by rw [h, e]; rfl), by omega⟩
  · exact .inr ⟨BitVec.eq_of_toNat_eq (by rw [h, e]; rfl), by omega⟩
theorem par_of (b : Int) : ((BitVec.ofInt 32 b &&& 1#32) = 0#32 ∧ b % 2 = 0) ∨ ((BitVec.ofInt 32 b &&& 1#32) = 1#32 ∧ b % 2 = 1) := by
  have h : V (BitVec.ofInt 32 b) % 2 = b % 2 := by rw [← V_of_int]; omega
  rcases low_of (BitVec.ofInt 32 b) with ⟨h1, h2⟩ | ⟨h1, h2⟩
  · exact .inl ⟨h1, by omega⟩
  · exact .inr ⟨h1, by omega⟩
theorem tmod_even (b : Int) (h : b % 2 = 0) : b.tmod 2 = 0 := by
  rw [Int.tmod_eq_emod]; split <;> omega
theorem tmod_odd (b : Int) (h : b % 2 = 1) : (b.tmod 2 != 0) = true := by
  have : b.tmod 2 ≠ 0 := by rw [Int.tmod_eq_emod]; split <;> omega
  simpa using this

set_option maxHeartbeats 400000 in
theorem rstep_any (r : BitVec 32) (b : Int) (w : World) :
    Calls Tryz.prog 132 #[.int .u32 (V r), .int .i64 b] w fun e w' => e = .returned (.int .u32 (V (Zc.step r (BitVec.ofInt 32 b)))) ∧ w = w' := by
  have hp0 := V_nonneg r
  have hp1 := V_lt r
  rcases par_of b with ⟨hc, hb⟩ | ⟨hc, hb⟩
  · have ht := tmod_even b hb
    clear hb
    rcases low_of r with ⟨hr, hm⟩ | ⟨hr, hm⟩
    · have he := step_eq r _ (hr.trans hc.symm)
      have HE := Lib.hid he
      clear he hr hc
      go_enter Tryz.func132, Tryz.ntmps132
      go_wp2
      go_ret
      exact ⟨by rw [← HE.out]; rfl, rfl⟩
    · have he := step_ne r (BitVec.ofInt 32 b) (by rw [hr, hc]; decide)
      have HE := Lib.hid he
      clear he hr hc
      go_enter Tryz.func132, Tryz.ntmps132
      go_wp2
      go_ret
      exact ⟨by rw [← HE.out]; rfl, rfl⟩
  · have ht := tmod_odd b hb
    clear hb
    rcases low_of r with ⟨hr, hm⟩ | ⟨hr, hm⟩
    · have he := step_ne r (BitVec.ofInt 32 b) (by rw [hr, hc]; decide)
      have HE := Lib.hid he
      clear he hr hc
      go_enter Tryz.func132, Tryz.ntmps132
      go_wp2
      go_ret
      exact ⟨by rw [← HE.out]; rfl, rfl⟩
    · have he := step_eq r _ (hr.trans hc.symm)
      have HE := Lib.hid he
      clear he hr hc
      go_enter Tryz.func132, Tryz.ntmps132
      go_wp2
      go_ret
      exact ⟨by rw [← HE.out]; rfl, rfl⟩

/-- A bit of a byte. -/
theorem bit_step (q : BitVec 32) (x n : Nat) (hx : x < 256) :
    Zc.step q (BitVec.ofInt 32 ((x / 2 ^ n : Nat) : Int)) = Zc.step q (BitVec.ofNat 32 x >>> n) := by
  congr 1
  rw [BitVec.ofInt_natCast]
  apply BitVec.eq_of_toNat_eq
  rw [BitVec.toNat_ofNat, BitVec.toNat_ushiftRight, BitVec.toNat_ofNat, Nat.shiftRight_eq_div_pow, Nat.mod_eq_of_lt (by omega : x < 2 ^ 32), Nat.mod_eq_of_lt]
  exact Nat.lt_of_le_of_lt (Nat.div_le_self _ _) (by omega)
theorem step_mod (q : BitVec 32) (m : Nat) : Zc.step q (BitVec.ofInt 32 ((m : Int) % 2)) = Zc.step q (BitVec.ofInt 32 (m : Int)) := by
  unfold Zc.step
  congr 2
  rcases par_of (m : Int) with ⟨h1, h2⟩ | ⟨h1, h2⟩
  · rw [h1, h2]; decide
  · rw [h1, h2]; decide

set_option maxRecDepth 100000 in
set_option maxHeartbeats 400000 in
theorem rreg_any (r : BitVec 32) (s : ByteArray) (hs : s.size ≤ maxLen) (w : World) :
    Calls Tryz.prog 120 #[.int .u32 (V r), .string s] w fun e w' => e = .returned (.int .u32 (V (Zc.reg r s.data.toList))) ∧ w = w' := by
  unfold maxLen at hs
  go_enter Tryz.func120, Tryz.ntmps120
  go_wp2
  go_loop [0, 5, 6, 7] (fun a i _ _ => ∃ k : Nat, k ≤ s.size ∧ i = .int .i64 k ∧ a = .int .u32 (V (Zc.reg r (s.data.toList.take k)))) (fun _ i _ _ => s.size - (intOf i).toNat)
  case atStart => exact ⟨0, Nat.zero_le _, rfl, rfl⟩
  case round =>
    obtain ⟨k, hk, rfl, rfl⟩ := hrel
    obtain ⟨q, hq⟩ : ∃ q, q = Zc.reg r (s.data.toList.take k) := ⟨_, rfl⟩
    rw [← hq]
    by_cases hlt : k < s.size
    · have hn : Zc.reg r (s.data.toList.take (k + 1)) = Zc.byte q s[k] := by rw [take_snoc s k hlt, Zc.reg_snoc, hq]
      obtain ⟨b, hb⟩ : ∃ b, b = s[k] := ⟨_, rfl⟩
      rw [← hb] at hn
      have HN := Lib.hid (And.intro hn hb)
      clear hn hq hb
      have hx : (s[k].toNat : Int) < 256 := by have := s[k].toNat_lt; omega
      go_wp2
      clear hx
      rw [← HN.out.2]
      go_loop [0, 6, 7] (fun a c j => ∃ n : Nat, n ≤ 8 ∧ j = .int .i64 n ∧ c = .int .i64 ((b.toNat / 2 ^ n : Nat) : Int) ∧ a = .int .u32 (V (Zc.bits q (w8 b) n))) (fun _ _ j => 8 - (intOf j).toNat)
      case atStart => exact ⟨0, by omega, rfl, by simp, rfl⟩
      case round =>
        obtain ⟨n, hn, rfl, rfl, rfl⟩ := hrel
        obtain ⟨x, hx⟩ : ∃ x, x = b.toNat / 2 ^ n := ⟨_, rfl⟩
        have hxl : (x : Int) < 256 := by
          have := b.toNat_lt
          have := Nat.div_le_self b.toNat (2 ^ n)
          omega
        have hst : Zc.step (Zc.bits q (w8 b) n) (BitVec.ofInt 32 ((x : Int) % 2)) = Zc.bits q (w8 b) (n + 1) := by
          rw [step_mod, hx, bit_step _ _ _ (by have := b.toNat_lt; omega)]; rfl
        have hdv : (x : Int) / 2 = ((b.toNat / 2 ^ (n + 1) : Nat) : Int) := by
          rw [hx, Nat.pow_succ, ← Nat.div_div_eq_div_mul]; rfl
        rw [← hx]
        have HS := Lib.hid (And.intro hst hdv)
        clear hst hdv hx
        by_cases h8 : n < 8
        · go_wp2_with (go_at_call 132; refine (rstep_any _ _ _).mono ?_; rintro e w' ⟨rfl, rfl⟩)
          go_round
          case rel => exact ⟨n + 1, by omega, by go_num, by rw [HS.out.2], by rw [HS.out.1]⟩
          case measure => simp [intOf]; omega
        · obtain rfl : n = 8 := by omega
          go_wp2
          go_round
          case rel => exact ⟨k + 1, by omega, by go_num, by rw [HN.out.1, Zc.byte_bits]⟩
          case measure => simp [intOf]; omega
    · obtain rfl : k = s.size := by omega
      have HQ := Lib.hid hq
      clear hq
      go_wp2
      go_ret
      exact ⟨by rw [HQ.out, List.take_of_length_le (by simp)]; rfl, rfl⟩
theorem V_compl (x : BitVec 32) : 4294967295 - V x = V (~~~x) := by
  unfold V; rw [BitVec.toNat_not]; have := x.isLt; omega
theorem rmore_any (r : BitVec 32) (s : ByteArray) (hs : s.size ≤ maxLen) (w : World) :
    Calls Tryz.prog 100 #[.int .u32 (V r), .string s] w fun e w' => e = .returned (.int .u32 (V (Zc.more r s.data.toList))) ∧ w = w' := by
  have hp0 := V_nonneg r
  have hp1 := V_lt r
  have hc := V_compl r
  obtain ⟨m, hm⟩ : ∃ m, m = Zc.reg (~~~r) s.data.toList := ⟨_, rfl⟩
  have hq0 := V_nonneg m
  have hq1 := V_lt m
  have hd := V_compl m
  have hmo : Zc.more r s.data.toList = ~~~m := by rw [hm]; rfl
  rw [hmo]
  have HR := Lib.hid (And.intro hc (And.intro hd hm))
  clear hc hd hm hmo
  go_enter Tryz.func100, Tryz.ntmps100
  go_wp2_with fail
  rw [HR.out.1]
  refine (rreg_any (~~~r) s hs _).mono ?_
  rintro e w' ⟨rfl, rfl⟩
  rw [← HR.out.2.2]
  go_wp2_with fail
  go_ret
  exact ⟨by rw [← HR.out.2.1]; rfl, rfl⟩
theorem rsum_any (s : ByteArray) (hs : s.size ≤ maxLen) (w : World) :
    Calls Tryz.prog 81 #[.string s] w fun e w' => e = .returned (.int .u32 (V (Zc.sum s.data.toList))) ∧ w = w' := by
  go_enter Tryz.func81, Tryz.ntmps81
  go_wp2_with fail
  refine (rmore_any 0#32 s hs _).mono ?_
  rintro e w1 ⟨rfl, rfl⟩
  go_wp2_with fail
  go_ret
  exact ⟨rfl, rfl⟩
theorem rzero_one (r : BitVec 32) (w : World) :
    Calls Tryz.prog 100 #[.int .u32 (V r), .string ⟨#[0]⟩] w fun e w' => e = .returned (.int .u32 (V (Zc.zeros r 1))) ∧ w = w' := by
  rw [Zc.zeros_more]; exact rmore_any r ⟨#[0]⟩ (by decide) w
end Go.Proofs.YtdmbombjkinboaaGreat
namespace Go.Proofs.YtdmbombjkinboaaGreat
namespace Zc

/-- The register behind the bits f 0 .. f (n - 1). -/
def bitsF (r : BitVec 32) (f : Nat → Bool) : Nat → BitVec 32
  | 0 => r
  | n + 1 => step (bitsF r f n) (if f n then 1#32 else 0#32)
/-- The byte of eight bits. -/
def byteF (f : Nat → Bool) (i : Nat) : UInt8 :=
  (List.range 8).foldl (fun c k => c ^^^ (if f (8 * i + k) then UInt8.ofNat (2 ^ k) else 0)) 0
def bytesF (f : Nat → Bool) (n : Nat) : List UInt8 := (List.range n).map (byteF f)
theorem bytesF_succ (f : Nat → Bool) (n : Nat) : bytesF f (n + 1) = bytesF f n ++ [byteF f n] := by
  unfold bytesF; rw [List.range_succ, List.map_append]; rfl
theorem bytesF_length (f : Nat → Bool) (n : Nat) : (bytesF f n).length = n := by simp [bytesF]
theorem bitsF_add (r : BitVec 32) (f : Nat → Bool) (m n : Nat) : bitsF r f (m + n) = bitsF (bitsF r f m) (fun k => f (m + k)) n := by
  induction n with
  | zero => rfl
  | succ n ih => rw [← Nat.add_assoc, bitsF, ih]; rfl
theorem bitsF_congr (r : BitVec 32) (f g : Nat → Bool) (n : Nat) (h : ∀ k, k < n → f k = g k) : bitsF r f n = bitsF r g n := by
  induction n with
  | zero => rfl
  | succ n ih => rw [bitsF, bitsF, ih fun k hk => h k (by omega), h n (by omega)]
theorem step_low (r x : BitVec 32) (n : Nat) : step r (x >>> n) = step r (if x.getLsbD n then 1#32 else 0#32) := by
  unfold step
  congr 2
  apply BitVec.eq_of_getLsbD_eq
  intro i hi
  simp only [BitVec.getLsbD_and, BitVec.getLsbD_ushiftRight, BitVec.getLsbD_one]
  cases i with
  | zero => cases x.getLsbD n <;> simp
  | succ i => simp
theorem bits_F (r x : BitVec 32) (n : Nat) : bits r x n = bitsF r x.getLsbD n := by
  induction n with
  | zero => rfl
  | succ n ih => rw [bits, bitsF, ih, step_low]
theorem eight : ∀ (a0 a1 a2 a3 a4 a5 a6 a7 : Bool) (k : Fin 8),
    (w8 (0 ^^^ (if a0 then UInt8.ofNat (2 ^ 0) else 0) ^^^ (if a1 then UInt8.ofNat (2 ^ 1) else 0) ^^^ (if a2 then UInt8.ofNat (2 ^ 2) else 0) ^^^ (if a3 then UInt8.ofNat (2 ^ 3) else 0) ^^^ (if a4 then UInt8.ofNat (2 ^ 4) else 0) ^^^ (if a5 then UInt8.ofNat (2 ^ 5) else 0) ^^^ (if a6 then UInt8.ofNat (2 ^ 6) else 0) ^^^ (if a7 then UInt8.ofNat (2 ^ 7) else 0))).getLsbD k.val
      = [a0, a1, a2, a3, a4, a5, a6, a7].getD k.val false := by decide +kernel
theorem byteF_bit (f : Nat → Bool) (i : Nat) : ∀ k, k < 8 → (w8 (byteF f i)).getLsbD k = f (8 * i + k) := by
  unfold byteF
  simp only [show List.range 8 = [0, 1, 2, 3, 4, 5, 6, 7] from rfl, List.foldl_cons, List.foldl_nil]
  intro k hk
  refine (eight _ _ _ _ _ _ _ _ ⟨k, hk⟩).trans ?_
  match k, hk with
  | 0, _ => rfl | 1, _ => rfl | 2, _ => rfl | 3, _ => rfl | 4, _ => rfl | 5, _ => rfl | 6, _ => rfl | 7, _ => rfl
theorem reg_bytesF (f : Nat → Bool) (r : BitVec 32) (n : Nat) : reg r (bytesF f n) = bitsF r f (8 * n) := by
  induction n with
  | zero => rfl
  | succ n ih =>
    rw [bytesF_succ, reg_snoc, ih, ← byte_bits, bits_F, show 8 * (n + 1) = 8 * n + 8 by omega, bitsF_add]
    exact bitsF_congr _ _ _ _ fun k hk => byteF_bit f n k hk

theorem bitsF_false (n : Nat) (f : Nat → Bool) (h : ∀ k, k < n → f k = false) (r : BitVec 32) : bitsF r f n = Sn n r := by
  induction n with
  | zero => rfl
  | succ n ih =>
    rw [bitsF, ih fun k hk => h k (by omega), h n (by omega)]
    show S _ = S _
    simp
/-- Bits of which none but the first m of x, from p on, may be true leave 0 behind just if all are false. -/
theorem burst_zero (f : Nat → Bool) (x : BitVec 32) (p m q : Nat) (hm : m ≤ 32) (h1 : ∀ k, k < p → f k = false) (h2 : ∀ k, k < m → f (p + k) = x.getLsbD k)
    (h3 : ∀ k, k < q → f (p + m + k) = false) (h : bitsF 0#32 f (p + m + q) = 0#32) : ∀ k, k < m → x.getLsbD k = false := by
  rw [bitsF_add, bitsF_false q _ h3] at h
  have h := Sn_eq_zero _ _ h
  rw [bitsF_add, bitsF_false p _ h1, Sn_zero, bitsF_congr _ _ _ _ h2] at h
  obtain ⟨y, hy⟩ : ∃ y, y = x <<< (32 - m) >>> (32 - m) := ⟨_, rfl⟩
  have hyk : ∀ k, k < m → y.getLsbD k = x.getLsbD k := fun k hk => by
    rw [hy]; simp; omega
  have hlt : y.toNat < 2 ^ m := by
    rw [hy, BitVec.toNat_ushiftRight, Nat.shiftRight_eq_div_pow]
    have := (x <<< (32 - m)).isLt
    rw [Nat.div_lt_iff_lt_mul (Nat.two_pow_pos _), ← Nat.pow_add, show m + (32 - m) = 32 by omega]
    exact this
  rw [bitsF_congr _ _ y.getLsbD _ (fun k hk => (hyk k hk).symm), ← bits_F, bits_all _ _ _ hlt, BitVec.zero_xor] at h
  have h := Sn_eq_zero _ _ h
  intro k hk
  rw [← hyk k hk, h, BitVec.getLsbD_zero]
/-- The bits that k steps of the burst x, from p on, have turned. -/
def fB (p : Nat) (x : BitVec 32) (k : Nat) (q : Nat) : Bool := decide (p ≤ q) && decide (q < p + k) && x.getLsbD (q - p)
theorem w8_xor (c d : UInt8) : w8 (c ^^^ d) = w8 c ^^^ w8 d := by
  unfold w8
  apply BitVec.eq_of_toNat_eq
  rw [BitVec.toNat_xor, BitVec.toNat_ofNat, BitVec.toNat_ofNat, BitVec.toNat_ofNat, UInt8.toNat_xor]
  have h1 := c.toNat_lt
  have h2 := d.toNat_lt
  rw [Nat.mod_eq_of_lt (by omega : c.toNat < 2 ^ 32), Nat.mod_eq_of_lt (by omega : d.toNat < 2 ^ 32), Nat.mod_eq_of_lt]
  exact Nat.lt_trans (Nat.xor_lt_two_pow (n := 8) (by omega) (by omega)) (by decide)
theorem u8_ext {c d : UInt8} (h : ∀ k, k < 8 → (w8 c).getLsbD k = (w8 d).getLsbD k) : c = d := by
  have e : w8 c = w8 d := by
    apply BitVec.eq_of_getLsbD_eq
    intro i hi
    by_cases h8 : i < 8
    · exact h i h8
    · have z : ∀ c : UInt8, (w8 c).getLsbD i = false := fun c => by
        rw [BitVec.getLsbD, Nat.testBit_lt_two_pow]
        exact Nat.lt_of_lt_of_le (w8_lt c) (Nat.pow_le_pow_right (by decide) (by omega))
      rw [z c, z d]
  have := congrArg BitVec.toNat e
  unfold w8 at this
  rw [BitVec.toNat_ofNat, BitVec.toNat_ofNat] at this
  have h1 := c.toNat_lt
  have h2 := d.toNat_lt
  exact UInt8.toNat_inj.1 (by omega)
theorem byteF_congr {f g : Nat → Bool} {i : Nat} (h : ∀ k, k < 8 → f (8 * i + k) = g (8 * i + k)) : byteF f i = byteF g i :=
  u8_ext fun k hk => by rw [byteF_bit f i k hk, byteF_bit g i k hk, h k hk]
theorem one_bit : ∀ (m k : Fin 8), (w8 (UInt8.ofNat (2 ^ m.val))).getLsbD k.val = decide (m = k) := by decide +kernel
theorem fB_zero (p : Nat) (x : BitVec 32) (q : Nat) : fB p x 0 q = false := by
  unfold fB
  by_cases h : p ≤ q
  · rw [decide_eq_false (by omega : ¬ q < p + 0)]; simp
  · simp [h]
theorem fB_succ (p : Nat) (x : BitVec 32) (k q : Nat) : fB p x (k + 1) q = (fB p x k q ^^ (decide (q = p + k) && x.getLsbD k)) := by
  unfold fB
  by_cases e : q = p + k
  · subst e
    simp
  · by_cases h1 : p ≤ q
    · by_cases h2 : q < p + k
      · simp [h1, h2, e, show q < p + (k + 1) by omega]
      · simp [h2, e, show ¬ q < p + (k + 1) by omega]
    · simp [h1, show ¬ q = p + k by omega]
/-- A byte that was turned. -/
theorem byteF_turn (p : Nat) (x : BitVec 32) (k : Nat) (hb : x.getLsbD k = true) : byteF (fB p x (k + 1)) ((p + k) / 8) = byteF (fB p x k) ((p + k) / 8) ^^^ UInt8.ofNat (2 ^ ((p + k) % 8)) := by
  apply u8_ext
  intro j hj
  rw [byteF_bit _ _ _ hj, w8_xor, BitVec.getLsbD_xor, byteF_bit _ _ _ hj, fB_succ, hb, Bool.and_true]
  have := one_bit ⟨(p + k) % 8, by omega⟩ ⟨j, hj⟩
  simp only [Fin.mk.injEq] at this
  rw [this]
  congr 1
  rw [decide_eq_decide]
  omega
theorem byteF_other (p : Nat) (x : BitVec 32) (k i : Nat) (h : i ≠ (p + k) / 8 ∨ x.getLsbD k = false) : byteF (fB p x (k + 1)) i = byteF (fB p x k) i := by
  apply byteF_congr
  intro j hj
  rw [fB_succ]
  rcases h with h | h
  · rw [decide_eq_false (by omega : ¬ 8 * i + j = p + k)]; simp
  · rw [h]; simp
/-- The bytes behind k steps. -/
def turned (l : List UInt8) (p : Nat) (x : BitVec 32) (k : Nat) : List UInt8 := zip2 l (bytesF (fB p x k) l.length)
theorem turned_get (l : List UInt8) (p : Nat) (x : BitVec 32) (k i : Nat) (hi : i < l.length) : (turned l p x k)[i]? = some (l[i] ^^^ byteF (fB p x k) i) := by
  unfold turned zip2 bytesF
  simp [hi]
theorem turned_length (l : List UInt8) (p : Nat) (x : BitVec 32) (k : Nat) : (turned l p x k).length = l.length := by
  unfold turned zip2; rw [List.length_zipWith, bytesF_length, Nat.min_self]
theorem byteF_none {f : Nat → Bool} {i : Nat} (h : ∀ k, k < 8 → f (8 * i + k) = false) : byteF f i = 0 := by
  apply u8_ext
  intro k hk
  rw [byteF_bit f i k hk, h k hk]
  match k, hk with
  | 0, _ => rfl | 1, _ => rfl | 2, _ => rfl | 3, _ => rfl | 4, _ => rfl | 5, _ => rfl | 6, _ => rfl | 7, _ => rfl
theorem turned_none (l : List UInt8) (p : Nat) (x : BitVec 32) (k : Nat) (h : ∀ q, q < 8 * l.length → fB p x k q = false) : turned l p x k = l := by
  apply List.ext_getElem?
  intro i
  by_cases hi : i < l.length
  · rw [turned_get l p x k i hi, byteF_none (fun j hj => h _ (by omega)), UInt8.xor_zero, List.getElem?_eq_getElem hi]
  · rw [List.getElem?_eq_none (by rw [turned_length]; omega), List.getElem?_eq_none (by omega)]
/-- A TEXT SOME OF WHOSE BITS ARE TURNED HAS ANOTHER SUM. -/
theorem burst_same (l : List UInt8) (p : Nat) (x : BitVec 32) (hp : p < 8 * l.length) (h : sum (turned l p x 32) = sum l) : turned l p x 32 = l := by
  have h2 : reg 0#32 (bytesF (fB p x 32) l.length) = 0#32 := by
    unfold sum more at h
    have h := congrArg (fun y => ~~~y) h
    simp only [not_not] at h
    generalize ~~~(0#32) = F at h
    have e := reg_xor l (bytesF (fB p x 32) l.length) F 0#32 (by rw [bytesF_length])
    rw [BitVec.xor_zero] at e
    unfold turned at h
    rw [e] at h
    have h := congrArg (fun y => reg F l ^^^ y) h
    simp only [← BitVec.xor_assoc, BitVec.xor_self, BitVec.zero_xor] at h
    exact h
  rw [reg_bytesF] at h2
  apply turned_none
  obtain ⟨m, q, hm, hmq, hq⟩ : ∃ m q, m ≤ 32 ∧ p + m + q = 8 * l.length ∧ (m = 32 ∨ q = 0) := by
    by_cases h32 : p + 32 ≤ 8 * l.length
    · exact ⟨32, 8 * l.length - p - 32, by omega, by omega, .inl rfl⟩
    · exact ⟨8 * l.length - p, 0, by omega, by omega, .inr rfl⟩
  rw [← hmq] at h2
  have hz := burst_zero (fB p x 32) x p m q hm (fun k hk => by unfold fB; rw [decide_eq_false (by omega : ¬ p ≤ k)]; rfl)
    (fun k hk => by unfold fB; rw [decide_eq_true (by omega : p ≤ p + k), decide_eq_true (by omega : p + k < p + 32), Nat.add_sub_cancel_left]; rfl)
    (fun k hk => by unfold fB; rw [decide_eq_false (by omega : ¬ p + m + k < p + 32)]; simp) h2
  intro r hr
  unfold fB
  by_cases h1 : p ≤ r
  · by_cases h2 : r < p + 32
    · have : r - p < m := by omega
      rw [hz _ this]; simp
    · simp [h2]
  · simp [h1]
theorem turned_getD (l : List UInt8) (p : Nat) (x : BitVec 32) (k i : Nat) (hi : i < l.length) : (turned l p x k).getD i 0 = l[i] ^^^ byteF (fB p x k) i := by
  rw [List.getD_eq_getElem?_getD, turned_get l p x k i hi]; rfl
theorem turned_at (l : List UInt8) (p : Nat) (x : BitVec 32) (k : Nat) (hb : x.getLsbD k = true) (hi : (p + k) / 8 < l.length) :
    (turned l p x (k + 1)).getD ((p + k) / 8) 0 = (turned l p x k).getD ((p + k) / 8) 0 ^^^ UInt8.ofNat (2 ^ ((p + k) % 8)) := by
  rw [turned_getD _ _ _ _ _ hi, turned_getD _ _ _ _ _ hi, byteF_turn p x k hb, UInt8.xor_assoc]
theorem turned_else (l : List UInt8) (p : Nat) (x : BitVec 32) (k i : Nat) (hi : i < l.length) (h : i ≠ (p + k) / 8 ∨ x.getLsbD k = false) :
    (turned l p x (k + 1)).getD i 0 = (turned l p x k).getD i 0 := by
  rw [turned_getD _ _ _ _ _ hi, turned_getD _ _ _ _ _ hi, byteF_other p x k i h]
theorem turned_stay (l : List UInt8) (p : Nat) (x : BitVec 32) (k : Nat) (h : 8 * l.length ≤ p + k ∨ x.getLsbD k = false) : turned l p x (k + 1) = turned l p x k := by
  apply List.ext_getElem?
  intro i
  by_cases hi : i < l.length
  · rw [turned_get l p x _ i hi, turned_get l p x _ i hi, byteF_other p x k i (by rcases h with h | h; exact .inl (by omega); exact .inr h)]
  · rw [List.getElem?_eq_none (by rw [turned_length]; omega), List.getElem?_eq_none (by rw [turned_length]; omega)]
end Zc
end Go.Proofs.YtdmbombjkinboaaGreat
