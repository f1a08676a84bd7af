/- Plain mathematics of the sum of layer 3: registers of 32 bits as bit vectors; a bit taken in; bytes; bits 0; products. Of no program. -/
import Derived.Test.YtdmbombjkinboaaSha
namespace Go.Proofs.Ytdmbombjkinboaa
namespace Zc

/-- What is turned. -/
def T : BitVec 32 := 3988292384#32
/-- The register behind a bit 0. -/
def S (r : BitVec 32) : BitVec 32 := (r >>> 1) ^^^ (bif r.getLsbD 0 then T else 0#32)
/-- The register behind n bits 0. -/
def Sn : Nat → BitVec 32 → BitVec 32
  | 0, r => r
  | n + 1, r => S (Sn n r)

theorem Sn_add (m : Nat) : ∀ (n : Nat) (r : BitVec 32), Sn (m + n) r = Sn m (Sn n r) := by
  induction m with
  | zero => intro n r; rw [Nat.zero_add]; rfl
  | succ m ih => intro n r; rw [Nat.succ_add, Sn, ih]; rfl
theorem Sn_succ (n : Nat) (r : BitVec 32) : Sn (n + 1) r = Sn n (S r) := Sn_add n 1 r
theorem S_xor (a b : BitVec 32) : S (a ^^^ b) = S a ^^^ S b := by
  unfold S
  rw [BitVec.ushiftRight_xor_distrib, BitVec.getLsbD_xor]
  cases a.getLsbD 0 <;> cases b.getLsbD 0 <;> simp only [Bool.xor_false, Bool.xor_true, Bool.not_true, Bool.not_false, cond_true, cond_false, BitVec.xor_zero]
  · ac_rfl
  · ac_rfl
  · rw [show a >>> 1 ^^^ T ^^^ (b >>> 1 ^^^ T) = a >>> 1 ^^^ b >>> 1 ^^^ (T ^^^ T) from by ac_rfl, BitVec.xor_self, BitVec.xor_zero]
theorem Sn_xor (n : Nat) (a b : BitVec 32) : Sn n (a ^^^ b) = Sn n a ^^^ Sn n b := by
  induction n with
  | zero => rfl
  | succ n ih => rw [Sn, ih, S_xor]; rfl
theorem S_zero : S 0#32 = 0#32 := by decide
theorem Sn_zero (n : Nat) : Sn n 0#32 = 0#32 := by
  induction n with
  | zero => rfl
  | succ n ih => rw [Sn, ih, S_zero]
theorem shr_of_even (r : BitVec 32) (h : r.getLsbD 0 = false) (h2 : r >>> 1 = 0#32) : r = 0#32 := by
  apply BitVec.eq_of_getLsbD_eq
  intro i hi
  rw [BitVec.getLsbD_zero]
  cases i with
  | zero => exact h
  | succ i =>
    have := congrArg (fun x => x.getLsbD i) h2
    simpa [BitVec.getLsbD_ushiftRight, Nat.add_comm] using this
theorem S_eq_zero (r : BitVec 32) (h : S r = 0#32) : r = 0#32 := by
  unfold S at h
  cases hb : r.getLsbD 0 with
  | false =>
    rw [hb, cond_false, BitVec.xor_zero] at h
    exact shr_of_even r hb h
  | true =>
    rw [hb, cond_true] at h
    have := congrArg (fun x => x.getLsbD 31) h
    simp [T, BitVec.getLsbD_of_ge] at this
theorem Sn_eq_zero (n : Nat) (r : BitVec 32) (h : Sn n r = 0#32) : r = 0#32 := by
  induction n with
  | zero => exact h
  | succ n ih => exact ih (S_eq_zero _ h)

/-- A bit taken in. -/
def step (r b : BitVec 32) : BitVec 32 := S (r ^^^ b &&& 1#32)
/-- What is even goes down by itself. -/
theorem S_even (x : BitVec 32) (h : x.getLsbD 0 = false) : S x = x >>> 1 := by
  unfold S; rw [h, cond_false, BitVec.xor_zero]
theorem S_half (r x : BitVec 32) : S (r ^^^ x) = step r x ^^^ x >>> 1 := by
  have e : x = (x &&& 1#32) ^^^ (x >>> 1) <<< 1 := by
    apply BitVec.eq_of_getLsbD_eq
    intro i hi
    simp only [BitVec.getLsbD_xor, BitVec.getLsbD_and, BitVec.getLsbD_shiftLeft, BitVec.getLsbD_ushiftRight]
    cases i with
    | zero => simp
    | succ i => simp [hi, Nat.add_comm 1 i]
  have e2 : S ((x >>> 1) <<< 1) = x >>> 1 := by
    rw [S_even _ (by simp)]
    apply BitVec.eq_of_getLsbD_eq
    intro i hi
    simp only [BitVec.getLsbD_shiftLeft, BitVec.getLsbD_ushiftRight]
    by_cases h31 : 1 + i < 32
    · simp [h31]
    · simp [h31, BitVec.getLsbD_of_ge x (1 + i) (by omega)]
  rw [show r ^^^ x = r ^^^ (x &&& 1#32) ^^^ (x >>> 1) <<< 1 from by rw [BitVec.xor_assoc, ← e], S_xor, e2]
  rfl
/-- The register behind the n lowest bits of x. -/
def bits (r x : BitVec 32) : Nat → BitVec 32
  | 0 => r
  | n + 1 => step (bits r x n) (x >>> n)
theorem shr_shr (x : BitVec 32) (n : Nat) : x >>> n >>> 1 = x >>> (n + 1) := (BitVec.shiftRight_add x n 1).symm
theorem bits_eq (r x : BitVec 32) (n : Nat) : bits r x n ^^^ x >>> n = Sn n (r ^^^ x) := by
  induction n with
  | zero => simp [bits, Sn]
  | succ n ih => rw [Sn, ← ih, S_half, shr_shr]; rfl
theorem shr_big (x : BitVec 32) (n : Nat) (h : x.toNat < 2 ^ n) : x >>> n = 0#32 := by
  apply BitVec.eq_of_toNat_eq
  rw [BitVec.toNat_ushiftRight, Nat.shiftRight_eq_div_pow, Nat.div_eq_of_lt h]; rfl
theorem bits_all (r x : BitVec 32) (n : Nat) (h : x.toNat < 2 ^ n) : bits r x n = Sn n (r ^^^ x) := by
  have := bits_eq r x n
  rwa [shr_big x n h, BitVec.xor_zero] at this

/-- A byte taken in. -/
def byte (r : BitVec 32) (c : UInt8) : BitVec 32 := Sn 8 (r ^^^ w8 c)
/-- Bytes taken in. -/
def reg (r : BitVec 32) (l : List UInt8) : BitVec 32 := l.foldl byte r
theorem w8_lt (c : UInt8) : (w8 c).toNat < 2 ^ 8 := by
  unfold w8; rw [BitVec.toNat_ofNat]; have := c.toNat_lt; omega
theorem byte_bits (r : BitVec 32) (c : UInt8) : bits r (w8 c) 8 = byte r c := bits_all r _ 8 (w8_lt c)
theorem reg_append (r : BitVec 32) (l k : List UInt8) : reg r (l ++ k) = reg (reg r l) k := List.foldl_append
theorem reg_snoc (r : BitVec 32) (l : List UInt8) (c : UInt8) : reg r (l ++ [c]) = byte (reg r l) c := by rw [reg_append]; rfl
/-- The sum. -/
def more (s : BitVec 32) (l : List UInt8) : BitVec 32 := ~~~(reg (~~~s) l)
def sum (l : List UInt8) : BitVec 32 := more 0#32 l
theorem not_not (a : BitVec 32) : ~~~(~~~a) = a := BitVec.not_not
theorem more_more (s : BitVec 32) (l k : List UInt8) : more (more s l) k = more s (l ++ k) := by
  unfold more; rw [not_not, reg_append]
theorem more_nil (s : BitVec 32) : more s [] = s := not_not s

/-! ### Four bits at once -/
theorem nibble (r : BitVec 32) : Sn 4 r = r >>> 4 ^^^ Sn 4 (r &&& 15#32) := by
  have h := bits_eq 0#32 r 4
  have h2 := bits_eq 0#32 (r &&& 15#32) 4
  rw [BitVec.zero_xor] at h h2
  rw [← h, ← h2, shr_big (r &&& 15#32) 4 (by rw [BitVec.toNat_and]; exact Nat.lt_of_le_of_lt Nat.and_le_right (by decide)), BitVec.xor_zero, BitVec.xor_comm]
  have e : ∀ n, n ≤ 4 → bits 0#32 r n = bits 0#32 (r &&& 15#32) n := by
    intro n hn
    induction n with
    | zero => rfl
    | succ n ih =>
      rw [bits, bits, ih (by omega)]
      unfold step
      congr 2
      apply BitVec.eq_of_getLsbD_eq
      intro i hi
      simp only [BitVec.getLsbD_and, BitVec.getLsbD_ushiftRight]
      by_cases hi0 : i = 0
      · subst hi0
        match n, hn with
        | 0, _ => simp
        | 1, _ => simp
        | 2, _ => simp
        | 3, _ => simp
      · simp [hi0]
  rw [e 4 (Nat.le_refl _)]
/-- What the table holds. -/
def tab (i : Nat) : BitVec 32 := Sn 4 (BitVec.ofNat 32 i)
theorem byte_nibbles (r : BitVec 32) (c : UInt8) :
    (let a := r ^^^ w8 c; let b := a >>> 4 ^^^ Sn 4 (a &&& 15#32); b >>> 4 ^^^ Sn 4 (b &&& 15#32)) = byte r c := by
  simp only [← nibble]
  rw [byte, show 8 = 4 + 4 from rfl, Sn_add]

/-! ### Sums add up -/
theorem byte_xor (a b : BitVec 32) (c d : UInt8) : byte (a ^^^ b) (c ^^^ d) = byte a c ^^^ byte b d := by
  unfold byte
  have : w8 (c ^^^ d) = w8 c ^^^ w8 d := by
    unfold w8
    apply BitVec.eq_of_toNat_eq
    rw [BitVec.toNat_xor, BitVec.toNat_ofNat, BitVec.toNat_ofNat, BitVec.toNat_ofNat, UInt8.toNat_xor]
    have h1 := c.toNat_lt
    have h2 := d.toNat_lt
    rw [Nat.mod_eq_of_lt (by omega : c.toNat < 2 ^ 32), Nat.mod_eq_of_lt (by omega : d.toNat < 2 ^ 32), Nat.mod_eq_of_lt]
    exact Nat.lt_trans (Nat.xor_lt_two_pow (n := 8) (by omega) (by omega)) (by decide)
  rw [this, ← Sn_xor]
  congr 1
  ac_rfl
def zip2 (l k : List UInt8) : List UInt8 := List.zipWith (· ^^^ ·) l k
theorem reg_xor : ∀ (l k : List UInt8) (a b : BitVec 32), l.length = k.length → reg (a ^^^ b) (zip2 l k) = reg a l ^^^ reg b k
  | [], [], _, _, _ => rfl
  | c :: l, d :: k, a, b, h => by
    show reg (byte (a ^^^ b) (c ^^^ d)) (zip2 l k) = _
    rw [byte_xor, reg_xor l k _ _ (by simpa using h)]
    rfl
theorem byte_zero (r : BitVec 32) : byte r 0 = Sn 8 r := by
  unfold byte; rw [show w8 0 = 0#32 from rfl, BitVec.xor_zero]
theorem reg_zeros (n : Nat) (r : BitVec 32) : reg r (List.replicate n 0) = Sn (8 * n) r := by
  induction n with
  | zero => rfl
  | succ n ih =>
    rw [List.replicate_succ', reg_snoc, ih, byte_zero, ← Sn_add]
    congr 1; omega
theorem zip2_zeros : ∀ (l : List UInt8), zip2 l (List.replicate l.length 0) = l
  | [] => rfl
  | c :: l => by
    rw [List.length_cons, List.replicate_succ]
    show (c ^^^ 0) :: zip2 l _ = _
    rw [zip2_zeros l, UInt8.xor_zero]
/-- Another beginning of the register. -/
theorem reg_from (a b : BitVec 32) (l : List UInt8) : reg (a ^^^ b) l = reg a l ^^^ Sn (8 * l.length) b := by
  have h := reg_xor l (List.replicate l.length 0) a b (by simp)
  rwa [zip2_zeros, reg_zeros] at h

/-! ### Bytes 0 -/
def zeros (s : BitVec 32) (n : Nat) : BitVec 32 := ~~~(Sn (8 * n) (~~~s))
theorem zeros_add (s : BitVec 32) (m n : Nat) : zeros (zeros s m) n = zeros s (m + n) := by
  unfold zeros; rw [not_not, ← Sn_add]; congr 2; omega
theorem zeros_zero (s : BitVec 32) : zeros s 0 = s := not_not s
theorem zeros_more (s : BitVec 32) (n : Nat) : zeros s n = more s (List.replicate n 0) := by
  unfold zeros more; rw [reg_zeros]
theorem combine_eq (a b : List UInt8) : zeros (sum a) b.length ^^^ sum b ^^^ zeros 0#32 b.length = sum (a ++ b) := by
  unfold zeros sum more
  rw [not_not, reg_append]
  generalize ~~~(0#32) = F
  have h := reg_from F (reg F a ^^^ F) b
  rw [show F ^^^ (reg F a ^^^ F) = reg F a ^^^ (F ^^^ F) from by ac_rfl, BitVec.xor_self, BitVec.xor_zero, Sn_xor] at h
  rw [h]
  generalize Sn _ (reg F a) = p
  generalize Sn _ F = q
  generalize reg F b = r
  rw [← BitVec.allOnes_xor, ← BitVec.allOnes_xor, ← BitVec.allOnes_xor, ← BitVec.allOnes_xor]
  generalize BitVec.allOnes 32 = o
  rw [show o ^^^ p ^^^ (o ^^^ r) ^^^ (o ^^^ q) = (o ^^^ o) ^^^ (o ^^^ (r ^^^ (p ^^^ q))) from by ac_rfl, BitVec.xor_self, BitVec.zero_xor]

/-! ### Products -/
def H : BitVec 32 := 2147483648#32
/-- The product of the n highest bits of a, and b. -/
def prod (a b : BitVec 32) : Nat → BitVec 32
  | 0 => 0#32
  | n + 1 => prod a b n ^^^ (bif a.getLsbD (31 - n) then Sn n b else 0#32)
theorem Sn_high : ∀ n, n < 32 → Sn n H = 1#32 <<< (31 - n) := by decide +kernel
/-- a's n highest bits. -/
def high (a : BitVec 32) : Nat → BitVec 32
  | 0 => 0#32
  | n + 1 => high a n ^^^ (bif a.getLsbD (31 - n) then 1#32 <<< (31 - n) else 0#32)
theorem high_get (a : BitVec 32) (i : Nat) : ∀ n, n ≤ 32 → (high a n).getLsbD i = (decide (32 - n ≤ i) && a.getLsbD i)
  | 0, _ => by
    rw [high, BitVec.getLsbD_zero]
    by_cases h : 32 ≤ i
    · rw [BitVec.getLsbD_of_ge a i h]; simp
    · simp [h]
  | n + 1, hn => by
    rw [high, BitVec.getLsbD_xor, high_get a i n (by omega)]
    by_cases e : i = 31 - n
    · subst e
      rw [decide_eq_false (by omega : ¬ 32 - n ≤ 31 - n), decide_eq_true (by omega : 32 - (n + 1) ≤ 31 - n)]
      cases a.getLsbD (31 - n)
      · simp
      · simp; omega
    · have : (bif a.getLsbD (31 - n) then 1#32 <<< (31 - n) else 0#32).getLsbD i = false := by
        cases a.getLsbD (31 - n)
        · simp
        · simp only [cond_true, BitVec.getLsbD_shiftLeft, BitVec.getLsbD_one]
          by_cases h1 : i < 31 - n
          · simp [h1]
          · have : ¬ i - (31 - n) = 0 := by omega
            simp [this]
      rw [this, Bool.xor_false]
      by_cases h1 : 32 - n ≤ i
      · rw [decide_eq_true h1, decide_eq_true (by omega : 32 - (n + 1) ≤ i)]
      · rw [decide_eq_false h1, decide_eq_false (by omega : ¬ 32 - (n + 1) ≤ i)]
theorem high_all (a : BitVec 32) : high a 32 = a := by
  apply BitVec.eq_of_getLsbD_eq
  intro i hi
  rw [high_get a i 32 (Nat.le_refl _)]; simp
theorem prod_power (a : BitVec 32) (k : Nat) : ∀ n, n ≤ 32 → prod a (Sn k H) n = Sn k (high a n)
  | 0, _ => (Sn_zero k).symm
  | n + 1, hn => by
    rw [prod, high, prod_power a k n (by omega), Sn_xor, ← Sn_add, Nat.add_comm, Sn_add, Sn_high n (by omega)]
    cases a.getLsbD (31 - n)
    · rw [cond_false, cond_false, Sn_zero]
    · rfl
/-- A product with a power. -/
theorem prod_all (a : BitVec 32) (k : Nat) : prod a (Sn k H) 32 = Sn k a := by rw [prod_power a k 32 (Nat.le_refl _), high_all]
theorem prod_shl (a b : BitVec 32) (n : Nat) (h : n < 32) : prod a b (n + 1) = prod a b n ^^^ (bif (a <<< n).getLsbD 31 then Sn n b else 0#32) := by
  rw [prod, BitVec.getLsbD_shiftLeft]
  simp [show ¬ 31 < n by omega]
/-- From where on nothing is left, the product is whole. -/
theorem prod_done (a b : BitVec 32) (n : Nat) (hn : n ≤ 32) (h : a <<< n = 0#32) : prod a b n = prod a b 32 := by
  have hz : ∀ m, n ≤ m → m ≤ 32 → prod a b m = prod a b n := by
    intro m h1 h2
    induction m with
    | zero => rw [show n = 0 by omega]
    | succ m ih =>
      by_cases e : n = m + 1
      · rw [e]
      · rw [prod_shl a b m (by omega), ih (by omega) (by omega)]
        have : (a <<< m).getLsbD 31 = false := by
          have h0 := congrArg (fun x => x.getLsbD (31 - m + n)) h
          simp only [BitVec.getLsbD_shiftLeft, BitVec.getLsbD_zero] at h0 ⊢
          rw [show 31 - m + n - n = 31 - m by omega, decide_eq_true (by omega : 31 - m + n < 32), decide_eq_false (by omega : ¬ 31 - m + n < n)] at h0
          rw [decide_eq_false (by omega : ¬ 31 < m)]
          simpa using h0
        rw [this, cond_false, BitVec.xor_zero]
  exact (hz 32 hn (Nat.le_refl _)).symm
theorem shl_32 (a : BitVec 32) : a <<< 32 = 0#32 := by
  apply BitVec.eq_of_getLsbD_eq
  intro i hi
  simp [hi]
end Zc
end Go.Proofs.Ytdmbombjkinboaa
