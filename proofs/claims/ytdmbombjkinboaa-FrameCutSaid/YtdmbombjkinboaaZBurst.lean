/- Plain mathematics of a burst: some bits within 32 that stand side by side are turned. Of no program. -/
import Derived.Test.YtdmbombjkinboaaZMath
namespace Go.Proofs.Ytdmbombjkinboaa
namespace Zc

/-- The register behind the bits f 0 .. f (n - 1). -/
def bitsF (r : BitVec 32) (f : Nat → Bool) : Nat → BitVec 32
  | 0 => r
  | n + 1 => step (bitsF r f n) (if f n then 1#32 else 0#32)
/-- The byte of eight bits. -/
def byteF (f : Nat → Bool) (i : Nat) : UInt8 :=
  (List.range 8).foldl (fun c k => c ^^^ (if f (8 * i + k) then UInt8.ofNat (2 ^ k) else 0)) 0
def bytesF (f : Nat → Bool) (n : Nat) : List UInt8 := (List.range n).map (byteF f)
theorem bytesF_succ (f : Nat → Bool) (n : Nat) : bytesF f (n + 1) = bytesF f n ++ [byteF f n] := by
  unfold bytesF; rw [List.range_succ, List.map_append]; rfl
theorem bytesF_length (f : Nat → Bool) (n : Nat) : (bytesF f n).length = n := by simp [bytesF]
theorem bitsF_add (r : BitVec 32) (f : Nat → Bool) (m n : Nat) : bitsF r f (m + n) = bitsF (bitsF r f m) (fun k => f (m + k)) n := by
  induction n with
  | zero => rfl
  | succ n ih => rw [← Nat.add_assoc, bitsF, ih]; rfl
theorem bitsF_congr (r : BitVec 32) (f g : Nat → Bool) (n : Nat) (h : ∀ k, k < n → f k = g k) : bitsF r f n = bitsF r g n := by
  induction n with
  | zero => rfl
  | succ n ih => rw [bitsF, bitsF, ih fun k hk => h k (by omega), h n (by omega)]
theorem step_low (r x : BitVec 32) (n : Nat) : step r (x >>> n) = step r (if x.getLsbD n then 1#32 else 0#32) := by
  unfold step
  congr 2
  apply BitVec.eq_of_getLsbD_eq
  intro i hi
  simp only [BitVec.getLsbD_and, BitVec.getLsbD_ushiftRight, BitVec.getLsbD_one]
  cases i with
  | zero => cases x.getLsbD n <;> simp
  | succ i => simp
theorem bits_F (r x : BitVec 32) (n : Nat) : bits r x n = bitsF r x.getLsbD n := by
  induction n with
  | zero => rfl
  | succ n ih => rw [bits, bitsF, ih, step_low]
theorem eight : ∀ (a0 a1 a2 a3 a4 a5 a6 a7 : Bool) (k : Fin 8),
    (w8 (0 ^^^ (if a0 then UInt8.ofNat (2 ^ 0) else 0) ^^^ (if a1 then UInt8.ofNat (2 ^ 1) else 0) ^^^ (if a2 then UInt8.ofNat (2 ^ 2) else 0) ^^^ (if a3 then UInt8.ofNat (2 ^ 3) else 0) ^^^ (if a4 then UInt8.ofNat (2 ^ 4) else 0) ^^^ (if a5 then UInt8.ofNat (2 ^ 5) else 0) ^^^ (if a6 then UInt8.ofNat (2 ^ 6) else 0) ^^^ (if a7 then UInt8.ofNat (2 ^ 7) else 0))).getLsbD k.val
      = [a0, a1, a2, a3, a4, a5, a6, a7].getD k.val false := by decide +kernel
theorem byteF_bit (f : Nat → Bool) (i : Nat) : ∀ k, k < 8 → (w8 (byteF f i)).getLsbD k = f (8 * i + k) := by
  unfold byteF
  simp only [show List.range 8 = [0, 1, 2, 3, 4, 5, 6, 7] from rfl, List.foldl_cons, List.foldl_nil]
  intro k hk
  refine (eight _ _ _ _ _ _ _ _ ⟨k, hk⟩).trans ?_
  match k, hk with
  | 0, _ => rfl | 1, _ => rfl | 2, _ => rfl | 3, _ => rfl | 4, _ => rfl | 5, _ => rfl | 6, _ => rfl | 7, _ => rfl
theorem reg_bytesF (f : Nat → Bool) (r : BitVec 32) (n : Nat) : reg r (bytesF f n) = bitsF r f (8 * n) := by
  induction n with
  | zero => rfl
  | succ n ih =>
    rw [bytesF_succ, reg_snoc, ih, ← byte_bits, bits_F, show 8 * (n + 1) = 8 * n + 8 by omega, bitsF_add]
    exact bitsF_congr _ _ _ _ fun k hk => byteF_bit f n k hk

theorem bitsF_false (n : Nat) (f : Nat → Bool) (h : ∀ k, k < n → f k = false) (r : BitVec 32) : bitsF r f n = Sn n r := by
  induction n with
  | zero => rfl
  | succ n ih =>
    rw [bitsF, ih fun k hk => h k (by omega), h n (by omega)]
    show S _ = S _
    simp
/-- Bits of which none but the first m of x, from p on, may be true leave 0 behind just if all are false. -/
theorem burst_zero (f : Nat → Bool) (x : BitVec 32) (p m q : Nat) (hm : m ≤ 32) (h1 : ∀ k, k < p → f k = false) (h2 : ∀ k, k < m → f (p + k) = x.getLsbD k)
    (h3 : ∀ k, k < q → f (p + m + k) = false) (h : bitsF 0#32 f (p + m + q) = 0#32) : ∀ k, k < m → x.getLsbD k = false := by
  rw [bitsF_add, bitsF_false q _ h3] at h
  have h := Sn_eq_zero _ _ h
  rw [bitsF_add, bitsF_false p _ h1, Sn_zero, bitsF_congr _ _ _ _ h2] at h
  obtain ⟨y, hy⟩ : ∃ y, y = x <<< (32 - m) >>> (32 - m) := ⟨_, rfl⟩
  have hyk : ∀ k, k < m → y.getLsbD k = x.getLsbD k := fun k hk => by
    rw [hy]; simp; omega
  have hlt : y.toNat < 2 ^ m := by
    rw [hy, BitVec.toNat_ushiftRight, Nat.shiftRight_eq_div_pow]
    have := (x <<< (32 - m)).isLt
    rw [Nat.div_lt_iff_lt_mul (Nat.two_pow_pos _), ← Nat.pow_add, show m + (32 - m) = 32 by omega]
    exact this
  rw [bitsF_congr _ _ y.getLsbD _ (fun k hk => (hyk k hk).symm), ← bits_F, bits_all _ _ _ hlt, BitVec.zero_xor] at h
  have h := Sn_eq_zero _ _ h
  intro k hk
  rw [← hyk k hk, h, BitVec.getLsbD_zero]
/-- The bits that k steps of the burst x, from p on, have turned. -/
def fB (p : Nat) (x : BitVec 32) (k : Nat) (q : Nat) : Bool := decide (p ≤ q) && decide (q < p + k) && x.getLsbD (q - p)
theorem w8_xor (c d : UInt8) : w8 (c ^^^ d) = w8 c ^^^ w8 d := by
  unfold w8
  apply BitVec.eq_of_toNat_eq
  rw [BitVec.toNat_xor, BitVec.toNat_ofNat, BitVec.toNat_ofNat, BitVec.toNat_ofNat, UInt8.toNat_xor]
  have h1 := c.toNat_lt
  have h2 := d.toNat_lt
  rw [Nat.mod_eq_of_lt (by omega : c.toNat < 2 ^ 32), Nat.mod_eq_of_lt (by omega : d.toNat < 2 ^ 32), Nat.mod_eq_of_lt]
  exact Nat.lt_trans (Nat.xor_lt_two_pow (n := 8) (by omega) (by omega)) (by decide)
theorem u8_ext {c d : UInt8} (h : ∀ k, k < 8 → (w8 c).getLsbD k = (w8 d).getLsbD k) : c = d := by
  have e : w8 c = w8 d := by
    apply BitVec.eq_of_getLsbD_eq
    intro i hi
    by_cases h8 : i < 8
    · exact h i h8
    · have z : ∀ c : UInt8, (w8 c).getLsbD i = false := fun c => by
        rw [BitVec.getLsbD, Nat.testBit_lt_two_pow]
        exact Nat.lt_of_lt_of_le (w8_lt c) (Nat.pow_le_pow_right (by decide) (by omega))
      rw [z c, z d]
  have := congrArg BitVec.toNat e
  unfold w8 at this
  rw [BitVec.toNat_ofNat, BitVec.toNat_ofNat] at this
  have h1 := c.toNat_lt
  have h2 := d.toNat_lt
  exact UInt8.toNat_inj.1 (by omega)
theorem byteF_congr {f g : Nat → Bool} {i : Nat} (h : ∀ k, k < 8 → f (8 * i + k) = g (8 * i + k)) : byteF f i = byteF g i :=
  u8_ext fun k hk => by rw [byteF_bit f i k hk, byteF_bit g i k hk, h k hk]
theorem one_bit : ∀ (m k : Fin 8), (w8 (UInt8.ofNat (2 ^ m.val))).getLsbD k.val = decide (m = k) := by decide +kernel
theorem fB_zero (p : Nat) (x : BitVec 32) (q : Nat) : fB p x 0 q = false := by
  unfold fB
  by_cases h : p ≤ q
  · rw [decide_eq_false (by omega : ¬ q < p + 0)]; simp
  · simp [h]
theorem fB_succ (p : Nat) (x : BitVec 32) (k q : Nat) : fB p x (k + 1) q = (fB p x k q ^^ (decide (q = p + k) && x.getLsbD k)) := by
  unfold fB
  by_cases e : q = p + k
  · subst e
    simp
  · by_cases h1 : p ≤ q
    · by_cases h2 : q < p + k
      · simp [h1, h2, e, show q < p + (k + 1) by omega]
      · simp [h2, e, show ¬ q < p + (k + 1) by omega]
    · simp [h1, show ¬ q = p + k by omega]
/-- A byte that was turned. -/
theorem byteF_turn (p : Nat) (x : BitVec 32) (k : Nat) (hb : x.getLsbD k = true) : byteF (fB p x (k + 1)) ((p + k) / 8) = byteF (fB p x k) ((p + k) / 8) ^^^ UInt8.ofNat (2 ^ ((p + k) % 8)) := by
  apply u8_ext
  intro j hj
  rw [byteF_bit _ _ _ hj, w8_xor, BitVec.getLsbD_xor, byteF_bit _ _ _ hj, fB_succ, hb, Bool.and_true]
  have := one_bit ⟨(p + k) % 8, by omega⟩ ⟨j, hj⟩
  simp only [Fin.mk.injEq] at this
  rw [this]
  congr 1
  rw [decide_eq_decide]
  omega
theorem byteF_other (p : Nat) (x : BitVec 32) (k i : Nat) (h : i ≠ (p + k) / 8 ∨ x.getLsbD k = false) : byteF (fB p x (k + 1)) i = byteF (fB p x k) i := by
  apply byteF_congr
  intro j hj
  rw [fB_succ]
  rcases h with h | h
  · rw [decide_eq_false (by omega : ¬ 8 * i + j = p + k)]; simp
  · rw [h]; simp
/-- The bytes behind k steps. -/
def turned (l : List UInt8) (p : Nat) (x : BitVec 32) (k : Nat) : List UInt8 := zip2 l (bytesF (fB p x k) l.length)
theorem turned_get (l : List UInt8) (p : Nat) (x : BitVec 32) (k i : Nat) (hi : i < l.length) : (turned l p x k)[i]? = some (l[i] ^^^ byteF (fB p x k) i) := by
  unfold turned zip2 bytesF
  simp [hi]
theorem turned_length (l : List UInt8) (p : Nat) (x : BitVec 32) (k : Nat) : (turned l p x k).length = l.length := by
  unfold turned zip2; rw [List.length_zipWith, bytesF_length, Nat.min_self]
theorem byteF_none {f : Nat → Bool} {i : Nat} (h : ∀ k, k < 8 → f (8 * i + k) = false) : byteF f i = 0 := by
  apply u8_ext
  intro k hk
  rw [byteF_bit f i k hk, h k hk]
  match k, hk with
  | 0, _ => rfl | 1, _ => rfl | 2, _ => rfl | 3, _ => rfl | 4, _ => rfl | 5, _ => rfl | 6, _ => rfl | 7, _ => rfl
theorem turned_none (l : List UInt8) (p : Nat) (x : BitVec 32) (k : Nat) (h : ∀ q, q < 8 * l.length → fB p x k q = false) : turned l p x k = l := by
  apply List.ext_getElem?
  intro i
  by_cases hi : i < l.length
  · rw [turned_get l p x k i hi, byteF_none (fun j hj => h _ (by omega)), UInt8.xor_zero, List.getElem?_eq_getElem hi]
  · rw [List.getElem?_eq_none (by rw [turned_length]; omega), List.getElem?_eq_none (by omega)]
/-- A TEXT SOME OF WHOSE BITS ARE TURNED HAS ANOTHER SUM. -/
theorem burst_same (l : List UInt8) (p : Nat) (x : BitVec 32) (hp : p < 8 * l.length) (h : sum (turned l p x 32) = sum l) : turned l p x 32 = l := by
  have h2 : reg 0#32 (bytesF (fB p x 32) l.length) = 0#32 := by
    unfold sum more at h
    have h := congrArg (fun y => ~~~y) h
    simp only [not_not] at h
    generalize ~~~(0#32) = F at h
    have e := reg_xor l (bytesF (fB p x 32) l.length) F 0#32 (by rw [bytesF_length])
    rw [BitVec.xor_zero] at e
    unfold turned at h
    rw [e] at h
    have h := congrArg (fun y => reg F l ^^^ y) h
    simp only [← BitVec.xor_assoc, BitVec.xor_self, BitVec.zero_xor] at h
    exact h
  rw [reg_bytesF] at h2
  apply turned_none
  obtain ⟨m, q, hm, hmq, hq⟩ : ∃ m q, m ≤ 32 ∧ p + m + q = 8 * l.length ∧ (m = 32 ∨ q = 0) := by
    by_cases h32 : p + 32 ≤ 8 * l.length
    · exact ⟨32, 8 * l.length - p - 32, by omega, by omega, .inl rfl⟩
    · exact ⟨8 * l.length - p, 0, by omega, by omega, .inr rfl⟩
  rw [← hmq] at h2
  have hz := burst_zero (fB p x 32) x p m q hm (fun k hk => by unfold fB; rw [decide_eq_false (by omega : ¬ p ≤ k)]; rfl)
    (fun k hk => by unfold fB; rw [decide_eq_true (by omega : p ≤ p + k), decide_eq_true (by omega : p + k < p + 32), Nat.add_sub_cancel_left]; rfl)
    (fun k hk => by unfold fB; rw [decide_eq_false (by omega : ¬ p + m + k < p + 32)]; simp) h2
  intro r hr
  unfold fB
  by_cases h1 : p ≤ r
  · by_cases h2 : r < p + 32
    · have : r - p < m := by omega
      rw [hz _ this]; simp
    · simp [h2]
  · simp [h1]
theorem turned_getD (l : List UInt8) (p : Nat) (x : BitVec 32) (k i : Nat) (hi : i < l.length) : (turned l p x k).getD i 0 = l[i] ^^^ byteF (fB p x k) i := by
  rw [List.getD_eq_getElem?_getD, turned_get l p x k i hi]; rfl
theorem turned_at (l : List UInt8) (p : Nat) (x : BitVec 32) (k : Nat) (hb : x.getLsbD k = true) (hi : (p + k) / 8 < l.length) :
    (turned l p x (k + 1)).getD ((p + k) / 8) 0 = (turned l p x k).getD ((p + k) / 8) 0 ^^^ UInt8.ofNat (2 ^ ((p + k) % 8)) := by
  rw [turned_getD _ _ _ _ _ hi, turned_getD _ _ _ _ _ hi, byteF_turn p x k hb, UInt8.xor_assoc]
theorem turned_else (l : List UInt8) (p : Nat) (x : BitVec 32) (k i : Nat) (hi : i < l.length) (h : i ≠ (p + k) / 8 ∨ x.getLsbD k = false) :
    (turned l p x (k + 1)).getD i 0 = (turned l p x k).getD i 0 := by
  rw [turned_getD _ _ _ _ _ hi, turned_getD _ _ _ _ _ hi, byteF_other p x k i h]
theorem turned_stay (l : List UInt8) (p : Nat) (x : BitVec 32) (k : Nat) (h : 8 * l.length ≤ p + k ∨ x.getLsbD k = false) : turned l p x (k + 1) = turned l p x k := by
  apply List.ext_getElem?
  intro i
  by_cases hi : i < l.length
  · rw [turned_get l p x _ i hi, turned_get l p x _ i hi, byteF_other p x k i (by rcases h with h | h; exact .inl (by omega); exact .inr h)]
  · rw [List.getElem?_eq_none (by rw [turned_length]; omega), List.getElem?_eq_none (by rw [turned_length]; omega)]
end Zc
end Go.Proofs.Ytdmbombjkinboaa
