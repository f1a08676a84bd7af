/- Merged by program: The plain mathematics of items: their bytes, which may be, how bytes are read. Of no program. | What is read: it is what was written, and the other way round. Of no program. | Bytes that are cut off; and how great an item is. Of no program. -/
import Derived.WalkKit
import Derived.Lib.Hide
import Derived.Lib.BitFns
import Derived.WideShapes
namespace Go.Proofs.YtdfkpjmljaanpaaDoor
namespace Cn

/-- How many bytes a number takes. -/
def width (n : Nat) : Nat := (Lib.bitLen n + 7) / 8
/-- The last k bytes of a number, the greatest first. -/
def be : Nat → Nat → List UInt8
  | 0, _ => []
  | k + 1, n => UInt8.ofNat (n / 256 ^ k) :: be k n
theorem be_length (n : Nat) : ∀ k, (be k n).length = k
  | 0 => rfl
  | k + 1 => by rw [be, List.length_cons, be_length n k]
def num (n : Nat) : List UInt8 := UInt8.ofNat (width n) :: be (width n) n
theorem num_length (n : Nat) : (num n).length = width n + 1 := by rw [num, List.length_cons, be_length]

theorem aux_bound : ∀ f n, n < 2 ^ f → n < 2 ^ Lib.bitLenAux f n ∧ (0 < n → 2 ^ Lib.bitLenAux f n ≤ 2 * n) ∧ Lib.bitLenAux f n ≤ f
  | 0, n, h => by have : n = 0 := by omega
                  subst this; simp [Lib.bitLenAux]
  | f + 1, n, h => by
    unfold Lib.bitLenAux
    by_cases h0 : n = 0
    · subst h0; simp
    · rw [if_neg h0]
      obtain ⟨h1, h2, h3⟩ := aux_bound f (n / 2) (by rw [Nat.pow_succ] at h; omega)
      rw [Nat.add_comm 1, Nat.pow_succ]
      refine ⟨by omega, fun _ => ?_, by omega⟩
      by_cases hh : n / 2 = 0
      · have : n = 1 := by omega
        subst this
        cases f with
        | zero => simp [Lib.bitLenAux]
        | succ f => simp [Lib.bitLenAux]
      · have := h2 (by omega); omega
theorem width_lt {n : Nat} (h : n < 2 ^ 64) : n < 256 ^ width n := by
  obtain ⟨h1, -, -⟩ := aux_bound 64 n h
  rw [show (256 : Nat) = 2 ^ 8 from rfl, ← Nat.pow_mul]
  refine Nat.lt_of_lt_of_le h1 (Nat.pow_le_pow_right (by decide) ?_)
  show Lib.bitLen n ≤ _
  unfold width; omega
theorem width_le {n k : Nat} (h : n < 256 ^ k) (hk : k ≤ 8) : width n ≤ k := by
  have h64 : n < 2 ^ 64 := Nat.lt_of_lt_of_le h (by rw [show (2 : Nat) ^ 64 = 256 ^ 8 from by decide]; exact Nat.pow_le_pow_right (by decide) hk)
  obtain ⟨-, h2, -⟩ := aux_bound 64 n h64
  by_cases h0 : n = 0
  · subst h0; exact Nat.le_trans (by decide : width 0 ≤ 0) (Nat.zero_le _)
  · have := h2 (by omega)
    have hb : 2 ^ Lib.bitLen n < 2 ^ (8 * k + 1) := by
      rw [Nat.pow_succ, Nat.pow_mul]; show 2 ^ Lib.bitLenAux 64 n < 256 ^ k * 2; omega
    have := (Nat.pow_lt_pow_iff_right (by decide : 1 < 2)).1 hb
    unfold width; omega
theorem width_ge {n : Nat} (h : n < 2 ^ 64) (h0 : 0 < n) : 0 < width n ∧ 256 ^ (width n - 1) ≤ n := by
  obtain ⟨h1, h2, -⟩ := aux_bound 64 n h
  have h2 := h2 h0
  have hb : 0 < Lib.bitLen n := by
    rcases Nat.eq_zero_or_pos (Lib.bitLen n) with e | e
    · exfalso
      have : n < 2 ^ Lib.bitLen n := h1
      rw [e] at this; omega
    · exact e
  have hw : 0 < width n := by unfold width; omega
  refine ⟨hw, ?_⟩
  rw [show (256 : Nat) = 2 ^ 8 from rfl, ← Nat.pow_mul]
  have : 8 * (width n - 1) + 1 ≤ Lib.bitLen n := by unfold width; omega
  have h3 : 2 ^ (8 * (width n - 1) + 1) ≤ 2 ^ Lib.bitLen n := Nat.pow_le_pow_right (by decide) this
  rw [Nat.pow_succ] at h3
  have h2' : 2 ^ Lib.bitLen n ≤ 2 * n := h2
  omega
theorem width_zero : width 0 = 0 := by decide

/-- So many bytes of a number; the first of them may not be 0. -/
def digits : Nat → Bool → Nat → List UInt8 → Except Int (Nat × List UInt8)
  | 0, _, acc, l => .ok (acc, l)
  | _ + 1, _, _, [] => .error 7
  | k + 1, f, acc, c :: l => if f = true ∧ c.toNat = 0 then .error 3 else digits k false (acc * 256 + c.toNat) l
theorem digits_be (n : Nat) (r : List UInt8) : ∀ k f acc, (f = true → k = 0 ∨ n / 256 ^ (k - 1) % 256 ≠ 0) → digits k f acc (be k n ++ r) = .ok (acc * 256 ^ k + n % 256 ^ k, r)
  | 0, f, acc, _ => by simp [digits, be, Nat.mod_one]
  | k + 1, f, acc, hf => by
    have hc : (UInt8.ofNat (n / 256 ^ k)).toNat = n / 256 ^ k % 256 := by simp
    rw [be, List.cons_append, digits, hc, if_neg, digits_be n r k false _ (by simp)]
    · rw [Nat.pow_succ, Nat.mod_mul, Nat.add_mul]
      congr 2
      have : acc * 256 * 256 ^ k = acc * (256 ^ k * 256) := by rw [Nat.mul_assoc, Nat.mul_comm 256]
      rw [this, Nat.mul_comm (n / 256 ^ k % 256)]; omega
    · rintro ⟨h1, h2⟩
      rcases hf h1 with h | h
      · omega
      · exact h h2
theorem digits_num {n : Nat} (h : n < 2 ^ 64) (r : List UInt8) : digits (width n) true 0 (be (width n) n ++ r) = .ok (n, r) := by
  rw [digits_be]
  · rw [Nat.zero_mul, Nat.zero_add, Nat.mod_eq_of_lt (width_lt h)]
  · intro _
    rcases Nat.eq_zero_or_pos n with e | e
    · left; subst e; exact width_zero
    · right
      obtain ⟨h1, h2⟩ := width_ge h e
      have h3 := width_lt h
      have h4 : n / 256 ^ (width n - 1) < 256 := by
        rw [Nat.div_lt_iff_lt_mul (Nat.pow_pos (by decide))]
        rw [show width n = width n - 1 + 1 by omega, Nat.pow_succ, Nat.mul_comm] at h3
        exact h3
      rw [Nat.mod_eq_of_lt h4]
      have : 0 < n / 256 ^ (width n - 1) := Nat.div_pos h2 (Nat.pow_pos (by decide))
      omega
/-- What digits read: they are the number's last bytes. -/
theorem digits_ok : ∀ k f acc l n r, digits k f acc l = .ok (n, r) → l.length = k + r.length ∧ acc * 256 ^ k ≤ n ∧ n < (acc + 1) * 256 ^ k ∧ l = be k n ++ r ∧ (f = true → 0 < k → 256 ^ (k - 1) ≤ n)
  | 0, f, acc, l, n, r, h => by
    simp only [digits, Except.ok.injEq, Prod.mk.injEq] at h
    obtain ⟨rfl, rfl⟩ := h
    simp [be]
  | k + 1, f, acc, [], n, r, h => by simp [digits] at h
  | k + 1, f, acc, c :: l, n, r, h => by
    rw [digits] at h
    split at h
    · simp at h
    · rename_i hf
      obtain ⟨h1, h2, h3, h4, -⟩ := digits_ok k false _ l n r h
      have hc := UInt8.toNat_lt c
      have e : n / 256 ^ k = acc * 256 + c.toNat := by
        refine Nat.div_eq_of_lt_le h2 ?_
        rw [Nat.add_mul] at h3 ⊢; exact h3
      have hb : UInt8.ofNat (n / 256 ^ k) = c := by
        refine UInt8.toNat_inj.1 ?_
        rw [e]; simp
      refine ⟨by simp [h1]; omega, ?_, ?_, ?_, fun hft _ => ?_⟩
      · rw [Nat.pow_succ, Nat.mul_comm (256 ^ k), ← Nat.mul_assoc]
        exact Nat.le_trans (Nat.mul_le_mul_right _ (by omega)) h2
      · rw [Nat.pow_succ, Nat.mul_comm (256 ^ k), ← Nat.mul_assoc]
        exact Nat.lt_of_lt_of_le h3 (Nat.mul_le_mul_right _ (by omega))
      · rw [be, List.cons_append, hb, ← h4]
      · have : 0 < c.toNat := by
          rcases Nat.eq_zero_or_pos c.toNat with e | e
          · exact absurd ⟨hft, e⟩ hf
          · exact e
        show 256 ^ (k + 1 - 1) ≤ n
        rw [Nat.add_sub_cancel]
        exact Nat.le_trans (Nat.le_mul_of_pos_left _ (by omega)) h2
theorem width_of {n k : Nat} (hk : k ≤ 8) (h : n < 256 ^ k) (h1 : 0 < k → 256 ^ (k - 1) ≤ n) : width n = k := by
  have a := width_le h hk
  have h64 : n < 2 ^ 64 := Nat.lt_of_lt_of_le h (by rw [show (2 : Nat) ^ 64 = 256 ^ 8 from by decide]; exact Nat.pow_le_pow_right (by decide) hk)
  rcases Nat.eq_zero_or_pos k with e | e
  · omega
  · have b := h1 e
    have c := width_lt h64
    have : 256 ^ (k - 1) < 256 ^ width n := Nat.lt_of_le_of_lt b c
    have := (Nat.pow_lt_pow_iff_right (by decide : 1 < 256)).1 this
    omega
theorem digits_first {k : Nat} {l : List UInt8} {n : Nat} {r : List UInt8} (hk : k ≤ 7) (h : digits k true 0 l = .ok (n, r)) : width n = k ∧ n < 256 ^ 7 ∧ l = be k n ++ r ∧ l.length = k + r.length := by
  obtain ⟨h1, -, h3, h4, h5⟩ := digits_ok _ _ _ _ _ _ h
  simp only [Nat.zero_add, Nat.one_mul] at h3
  exact ⟨width_of (by omega) h3 (h5 rfl), Nat.lt_of_lt_of_le h3 (Nat.pow_le_pow_right (by decide) hk), h4, h1⟩
/-- Digits that are cut off. -/
theorem digits_cut (n : Nat) : ∀ k f acc j, j < k → (f = true → n / 256 ^ (k - 1) % 256 ≠ 0) → digits k f acc ((be k n).take j) = .error 7
  | 0, _, _, j, h, _ => absurd h (by omega)
  | k + 1, f, acc, 0, _, _ => by simp [digits]
  | k + 1, f, acc, j + 1, h, hf => by
    have hc : (UInt8.ofNat (n / 256 ^ k)).toNat = n / 256 ^ k % 256 := by simp
    rw [be, List.take_succ_cons, digits, hc, if_neg (fun hh => hf hh.1 hh.2)]
    exact digits_cut n k false _ j (by omega) (by simp)

/-- An item. -/
inductive Pt where
  | mk (k n : Int) (s : ByteArray) (l : List Pt)
mutual
def bytes : Pt → List UInt8
  | .mk k n s l => if k = 1 then num n.toNat else if k = 2 then 8 :: (num s.size ++ s.data.toList) else 9 :: (num l.length ++ bytesAll l)
def bytesAll : List Pt → List UInt8
  | [] => []
  | x :: r => bytes x ++ bytesAll r
end
mutual
/-- May an item be, in which so many lists may stand? -/
def may : Pt → Nat → Bool
  | .mk k n s l, d => if k = 1 then decide (0 ≤ n) && decide (n ≤ 72057594037927935) && decide (s.size = 0) && decide (l.length = 0)
    else if k = 2 then decide (n = 0) && decide (s.size ≤ 65536) && decide (l.length = 0)
    else if k = 3 then decide (n = 0) && decide (s.size = 0) && decide (l.length ≤ 1024) && decide (0 < d) && mayAll l (d - 1)
    else false
def mayAll : List Pt → Nat → Bool
  | [], _ => true
  | x :: r, d => may x d && mayAll r d
end
theorem bytesAll_append : ∀ a b, bytesAll (a ++ b) = bytesAll a ++ bytesAll b
  | [], b => by simp [bytesAll]
  | x :: r, b => by simp [bytesAll, bytesAll_append r b]
theorem mayAll_append (d : Nat) : ∀ a b, mayAll (a ++ b) d = (mayAll a d && mayAll b d)
  | [], b => by simp [mayAll]
  | x :: r, b => by simp [mayAll, mayAll_append d r b, Bool.and_assoc]

/-- A count of bytes or items. -/
def count (most p ow : Nat) : List UInt8 → Except Int (Nat × Nat × List UInt8)
  | [] => .error 7
  | c :: r => if 7 < c.toNat then .error 3 else
    match digits c.toNat true 0 r with
    | .error e => .error e
    | .ok (n, r') => if most < n ∨ 65536 < p + 1 + c.toNat + n + ow then .error 3 else .ok (n, p + 1 + c.toNat, r')
def items (f : Nat → Nat → List UInt8 → Except Int (Pt × Nat × List UInt8)) : Nat → Nat → Nat → List UInt8 → Except Int (List Pt × Nat × List UInt8)
  | 0, _, p, l => .ok ([], p, l)
  | n + 1, ow, p, l => match f (ow + n) p l with
    | .error e => .error e
    | .ok (x, p', l') => match items f n ow p' l' with
      | .error e => .error e
      | .ok (xs, p'', l'') => .ok (x :: xs, p'', l'')
/-- The item at the front of bytes, in which so many lists may stand, behind which so many are owed, from which place on. -/
def item : Nat → Nat → Nat → List UInt8 → Except Int (Pt × Nat × List UInt8)
  | _, _, _, [] => .error 7
  | d, ow, p, c :: r =>
    if c.toNat = 9 ∧ d = 0 then .error 3
    else if 9 < c.toNat ∨ 65536 < p + 1 + (if c.toNat < 8 then c.toNat else 1) + ow then .error 3
    else if c.toNat < 8 then
      match digits c.toNat true 0 r with
      | .error e => .error e
      | .ok (n, r') => .ok (.mk 1 n ⟨#[]⟩ [], p + 1 + c.toNat, r')
    else if c.toNat = 8 then
      match count 65536 (p + 1) ow r with
      | .error e => .error e
      | .ok (n, p', r') => if r'.length < n then .error 7 else .ok (.mk 2 0 ⟨(r'.take n).toArray⟩ [], p' + n, r'.drop n)
    else match d with
      | 0 => .error 3
      | d + 1 => match count 1024 (p + 1) ow r with
        | .error e => .error e
        | .ok (n, p', r') => match items (item d) n ow p' r' with
          | .error e => .error e
          | .ok (xs, p'', r'') => .ok (.mk 3 0 ⟨#[]⟩ xs, p'', r'')

theorem count_num {most p ow n : Nat} (h64 : n < 256 ^ 7) (h1 : n ≤ most) (h2 : p + 1 + width n + n + ow ≤ 65536) (r : List UInt8) : count most p ow (num n ++ r) = .ok (n, p + (num n).length, r) := by
  have h := width_le h64 (by decide)
  have h64' : n < 2 ^ 64 := Nat.lt_of_lt_of_le h64 (by decide)
  have hc : (UInt8.ofNat (width n)).toNat = width n := by rw [UInt8.toNat_ofNat']; omega
  rw [num_length, num, List.cons_append, count, hc, if_neg (by omega), digits_num h64' r]
  simp only
  rw [if_neg (by omega)]
  congr 2; congr 1; omega
theorem count_ok {most p ow n p' : Nat} {l r : List UInt8} (h : count most p ow l = .ok (n, p', r)) : l = num n ++ r ∧ n ≤ most ∧ n < 256 ^ 7 ∧ p' = p + (num n).length ∧ p' + n + ow ≤ 65536 := by
  cases l with
  | nil => simp [count] at h
  | cons c l =>
    rw [count] at h
    split at h
    · simp at h
    · split at h
      · simp at h
      · rename_i hd
        split at h
        · simp at h
        · rename_i hc hb
          simp only [Except.ok.injEq, Prod.mk.injEq] at h
          obtain ⟨rfl, rfl, rfl⟩ := h
          obtain ⟨h1, h2, h3, h4⟩ := digits_first (by omega) hd
          refine ⟨?_, by omega, h2, by rw [num_length, h1]; omega, by omega⟩
          rw [num, h1, List.cons_append, ← h3]
          congr 1
          exact (UInt8.toNat_inj.1 (by rw [UInt8.toNat_ofNat']; have := UInt8.toNat_lt c; omega)).symm
end Cn
end Go.Proofs.YtdfkpjmljaanpaaDoor
namespace Go.Proofs.YtdfkpjmljaanpaaDoor
namespace Cn

theorem byte_eq (c : UInt8) (n : Nat) (h : c.toNat = n) : c = UInt8.ofNat n := UInt8.toNat_inj.1 (by rw [UInt8.toNat_ofNat', ← h]; have := UInt8.toNat_lt c; omega)
theorem size_toArray (l : List UInt8) : (ByteArray.mk l.toArray).size = l.length := by simp [ByteArray.size]
theorem items_ok {d : Nat} (hit : ∀ ow p l x q r, item d ow p l = .ok (x, q, r) → l = Cn.bytes x ++ r ∧ may x d = true ∧ q = p + (Cn.bytes x).length ∧ q + ow ≤ 65536) :
    ∀ n ow p l xs q r, items (item d) n ow p l = .ok (xs, q, r) → p + n + ow ≤ 65536 → xs.length = n ∧ l = bytesAll xs ++ r ∧ mayAll xs d = true ∧ q = p + (bytesAll xs).length ∧ q + ow ≤ 65536
  | 0, ow, p, l, xs, q, r, h, hp => by
    simp only [items, Except.ok.injEq, Prod.mk.injEq] at h
    obtain ⟨rfl, rfl, rfl⟩ := h
    exact ⟨rfl, rfl, rfl, rfl, by omega⟩
  | n + 1, ow, p, l, xs, q, r, h, hp => by
    rw [items] at h
    split at h
    · simp at h
    · rename_i x p' l' he
      obtain ⟨h1, h2, h3, h4⟩ := hit _ _ _ _ _ _ he
      split at h
      · simp at h
      · rename_i ys p'' l'' hes
        simp only [Except.ok.injEq, Prod.mk.injEq] at h
        obtain ⟨rfl, rfl, rfl⟩ := h
        obtain ⟨k1, k2, k3, k4, k5⟩ := items_ok hit n ow p' l' ys p'' l'' hes (by omega)
        refine ⟨by simp [k1], ?_, ?_, ?_, k5⟩
        · rw [h1, k2, bytesAll, List.append_assoc]
        · rw [mayAll, h2, k3]; rfl
        · rw [k4, h3, bytesAll, List.length_append, Nat.add_assoc]
theorem item_ok : ∀ d ow p l x q r, item d ow p l = .ok (x, q, r) → l = Cn.bytes x ++ r ∧ may x d = true ∧ q = p + (Cn.bytes x).length ∧ q + ow ≤ 65536
  | d, ow, p, [], x, q, r, h => by cases d <;> simp [item] at h
  | d, ow, p, c :: l, x, q, r, h => by
    rw [item.eq_def] at h
    by_cases hd : c.toNat = 9 ∧ d = 0
    · simp [hd] at h
    · simp only [if_neg hd] at h
      by_cases hroom : 9 < c.toNat ∨ 65536 < p + 1 + (if c.toNat < 8 then c.toNat else 1) + ow
      · simp [if_pos hroom] at h
      · simp only [if_neg hroom] at h
        by_cases hc8 : c.toNat < 8
        · simp only [if_pos hc8] at h hroom
          cases hdig : digits c.toNat true 0 l with
          | error e => rw [hdig] at h; simp at h
          | ok nr =>
            obtain ⟨n, r'⟩ := nr
            rw [hdig] at h
            simp only [Except.ok.injEq, Prod.mk.injEq] at h
            obtain ⟨rfl, rfl, rfl⟩ := h
            obtain ⟨h1, h2, h3, h4⟩ := digits_first (by omega) hdig
            have hb : Cn.bytes (.mk 1 n ⟨#[]⟩ []) = num n := by simp [Cn.bytes]
            rw [hb]
            refine ⟨?_, ?_, by rw [num_length, h1]; omega, by omega⟩
            · rw [num, h1, List.cons_append, ← h3, ← byte_eq c _ rfl]
            · have h256 : (256 : Nat) ^ 7 = 72057594037927936 := by decide
              have : (n : Int) ≤ 72057594037927935 := by omega
              simp [may, this]
              rfl
        · simp only [if_neg hc8] at h hroom
          by_cases hceq : c.toNat = 8
          · simp only [if_pos hceq] at h
            cases hcnt : count 65536 (p + 1) ow l with
            | error e => rw [hcnt] at h; simp at h
            | ok nr =>
              obtain ⟨n, p', r'⟩ := nr
              rw [hcnt] at h
              obtain ⟨h1, h2, h3, h4, h5⟩ := count_ok hcnt
              by_cases hlen : r'.length < n
              · simp [hlen] at h
              · simp only [if_neg hlen, Except.ok.injEq, Prod.mk.injEq] at h
                obtain ⟨rfl, rfl, rfl⟩ := h
                have hsz : (ByteArray.mk (r'.take n).toArray).size = n := by rw [size_toArray, List.length_take]; omega
                have hb : Cn.bytes (.mk 2 0 ⟨(r'.take n).toArray⟩ []) = 8 :: (num n ++ r'.take n) := by rw [Cn.bytes, if_neg (by decide), if_pos rfl, hsz]
                rw [hb]
                refine ⟨?_, ?_, ?_, by omega⟩
                · rw [h1, List.cons_append, List.append_assoc, List.take_append_drop, byte_eq c 8 (by omega)]; rfl
                · rw [may, if_neg (by decide), if_pos rfl, hsz]; simp; omega
                · rw [h4, List.length_cons, List.length_append, List.length_take]; omega
          · simp only [if_neg hceq] at h
            have hc9 : c.toNat = 9 := by omega
            match d, hd, h with
            | 0, hd, h => exact absurd ⟨hc9, rfl⟩ hd
            | d + 1, hd, h =>
              simp only at h
              cases hcnt : count 1024 (p + 1) ow l with
              | error e => rw [hcnt] at h; simp at h
              | ok nr =>
                obtain ⟨n, p', r'⟩ := nr
                rw [hcnt] at h
                simp only at h
                obtain ⟨h1, h2, h3, h4, h5⟩ := count_ok hcnt
                cases hits : items (item d) n ow p' r' with
                | error e => rw [hits] at h; simp at h
                | ok nr =>
                  obtain ⟨xs, p'', r''⟩ := nr
                  rw [hits] at h
                  simp only [Except.ok.injEq, Prod.mk.injEq] at h
                  obtain ⟨rfl, rfl, rfl⟩ := h
                  obtain ⟨k1, k2, k3, k4, k5⟩ := items_ok (fun ow p l x q r => item_ok d ow p l x q r) n ow p' r' xs p'' r'' hits h5
                  have hb : Cn.bytes (.mk 3 0 ⟨#[]⟩ xs) = 9 :: (num n ++ bytesAll xs) := by rw [Cn.bytes, if_neg (by decide), if_neg (by decide), k1]
                  rw [hb]
                  refine ⟨?_, ?_, ?_, k5⟩
                  · rw [h1, k2, List.cons_append, List.append_assoc, byte_eq c 9 hc9]; rfl
                  · rw [may, if_neg (by decide), if_neg (by decide), if_pos rfl, k1]
                    simp [h2, k3]
                    rfl
                  · rw [k4, h4, List.length_cons, List.length_append]; omega
theorem may_cases {x : Pt} {d : Nat} (h : may x d = true) : (∃ n, x = .mk 1 n ⟨#[]⟩ [] ∧ 0 ≤ n ∧ n ≤ 72057594037927935) ∨ (∃ s, x = .mk 2 0 s [] ∧ s.size ≤ 65536) ∨ (∃ l, x = .mk 3 0 ⟨#[]⟩ l ∧ l.length ≤ 1024 ∧ 0 < d ∧ mayAll l (d - 1) = true) := by
  obtain ⟨k, n, s, l⟩ := x
  have hs0 : s.size = 0 → s = ⟨#[]⟩ := fun h => by
    apply Go.WideShapes.bytes_inj
    rw [List.eq_nil_of_length_eq_zero (show s.data.toList.length = 0 by simpa using h)]
  rw [may] at h
  split at h
  · rename_i hk
    simp only [Bool.and_eq_true, decide_eq_true_eq] at h
    obtain ⟨⟨⟨h1, h2⟩, h3⟩, h4⟩ := h
    left
    exact ⟨n, by rw [hk, hs0 h3, List.eq_nil_of_length_eq_zero h4], h1, h2⟩
  · split at h
    · rename_i hk
      simp only [Bool.and_eq_true, decide_eq_true_eq] at h
      obtain ⟨⟨h1, h2⟩, h3⟩ := h
      right; left
      exact ⟨s, by rw [hk, h1, List.eq_nil_of_length_eq_zero h3], h2⟩
    · split at h
      · rename_i hk
        simp only [Bool.and_eq_true, decide_eq_true_eq] at h
        obtain ⟨⟨⟨⟨h1, h2⟩, h3⟩, h4⟩, h5⟩ := h
        right; right
        exact ⟨l, by rw [hk, h1, hs0 h2], h3, h4, h5⟩
      · simp at h
theorem bytes_num (n : Int) : Cn.bytes (.mk 1 n ⟨#[]⟩ []) = num n.toNat := by simp [Cn.bytes]
theorem bytes_text (s : ByteArray) : Cn.bytes (.mk 2 0 s []) = 8 :: (num s.size ++ s.data.toList) := by rw [Cn.bytes, if_neg (by decide), if_pos rfl]
theorem bytes_list (l : List Pt) : Cn.bytes (.mk 3 0 ⟨#[]⟩ l) = 9 :: (num l.length ++ bytesAll l) := by rw [Cn.bytes, if_neg (by decide), if_neg (by decide)]
theorem bytes_pos (x : Pt) : 0 < (Cn.bytes x).length := by
  obtain ⟨k, n, s, l⟩ := x
  rw [Cn.bytes]
  split
  · rw [num_length]; omega
  · split <;> simp
theorem all_pos : ∀ l : List Pt, l.length ≤ (bytesAll l).length
  | [] => Nat.le_refl _
  | x :: r => by have := bytes_pos x; have := all_pos r; rw [bytesAll, List.length_append, List.length_cons]; omega
theorem str_eta (s : ByteArray) : (⟨s.data.toList.toArray⟩ : ByteArray) = s := by cases s; rfl
/-- A text that fits is 65,536 bytes at most: so its length has few bytes. -/
theorem small_width {n : Nat} (h : n ≤ 65536) : n < 256 ^ 7 ∧ width n ≤ 3 := ⟨Nat.lt_of_le_of_lt h (by decide), width_le (k := 3) (Nat.lt_of_le_of_lt h (by decide)) (by decide)⟩
theorem width7 {n : Nat} (h : n ≤ 72057594037927935) : width n ≤ 7 := width_le (k := 7) (Nat.lt_of_le_of_lt h (by decide)) (by decide)
theorem ofNat_width {n k : Nat} (h : width n ≤ k) (hk : k ≤ 255) : (UInt8.ofNat (width n)).toNat = width n := by rw [UInt8.toNat_ofNat']; omega
theorem items_bytes {d : Nat} (hit : ∀ x ow p r, may x d = true → p + (Cn.bytes x).length + ow ≤ 65536 → item d ow p (Cn.bytes x ++ r) = .ok (x, p + (Cn.bytes x).length, r)) :
    ∀ (xs : List Pt) ow p r, mayAll xs d = true → p + (bytesAll xs).length + ow ≤ 65536 → items (item d) xs.length ow p (bytesAll xs ++ r) = .ok (xs, p + (bytesAll xs).length, r)
  | [], ow, p, r, _, _ => rfl
  | x :: xs, ow, p, r, hm, hp => by
    rw [mayAll, Bool.and_eq_true] at hm
    rw [bytesAll, List.length_append] at hp
    have := all_pos xs
    rw [List.length_cons, items, bytesAll, List.append_assoc, hit x _ p _ hm.1 (by omega)]
    simp only
    rw [items_bytes hit xs ow _ r hm.2 (by omega), List.length_append, Nat.add_assoc]
theorem item_bytes : ∀ d x ow p r, may x d = true → p + (Cn.bytes x).length + ow ≤ 65536 → item d ow p (Cn.bytes x ++ r) = .ok (x, p + (Cn.bytes x).length, r) := by
  intro d
  induction d with
  | zero =>
    intro x ow p r hm hp
    rcases may_cases hm with ⟨n, rfl, h0, h1⟩ | ⟨s, rfl, h1⟩ | ⟨l, rfl, h1, h2, h3⟩
    · rw [bytes_num] at hp ⊢
      obtain ⟨m, rfl⟩ : ∃ m : Nat, n = m := ⟨n.toNat, by omega⟩
      simp only [Int.toNat_natCast] at hp ⊢
      have hw := width7 (n := m) (by omega)
      have hc := ofNat_width hw (by decide)
      rw [num_length] at hp ⊢
      rw [num, List.cons_append, item.eq_def]
      simp only [hc]
      rw [if_neg (by omega), if_pos (by omega : width m < 8), if_neg (by omega), if_pos (by omega), digits_num (by omega)]
      simp only
      congr 3; omega
    · rw [bytes_text, List.length_cons, List.length_append] at hp
      rw [bytes_text]
      obtain ⟨q1, q2⟩ := small_width h1
      have hl : s.data.toList.length = s.size := by simp
      have hnl := num_length s.size
      rw [List.cons_append, item.eq_def]
      simp only [show (8 : UInt8).toNat = 8 from rfl]
      rw [if_neg (by omega), if_neg (by omega : ¬ 8 < 8), if_neg (by omega), if_neg (by omega), if_pos trivial, List.append_assoc, count_num q1 h1 (by omega)]
      simp only
      rw [if_neg (by rw [List.length_append]; omega), List.take_append_of_le_length (by omega), List.take_of_length_le (by omega), List.drop_append_of_le_length (by omega), List.drop_of_length_le (by omega), str_eta, List.nil_append, List.length_cons, List.length_append, hl]
      congr 3; omega
    · omega
  | succ d ih =>
    intro x ow p r hm hp
    rcases may_cases hm with ⟨n, rfl, h0, h1⟩ | ⟨s, rfl, h1⟩ | ⟨l, rfl, h1, h2, h3⟩
    · rw [bytes_num] at hp ⊢
      obtain ⟨m, rfl⟩ : ∃ m : Nat, n = m := ⟨n.toNat, by omega⟩
      simp only [Int.toNat_natCast] at hp ⊢
      have hw := width7 (n := m) (by omega)
      have hc := ofNat_width hw (by decide)
      rw [num_length] at hp ⊢
      rw [num, List.cons_append, item.eq_def]
      simp only [hc]
      rw [if_neg (by omega), if_pos (by omega : width m < 8), if_neg (by omega), if_pos (by omega), digits_num (by omega)]
      simp only
      congr 3; omega
    · rw [bytes_text, List.length_cons, List.length_append] at hp
      rw [bytes_text]
      obtain ⟨q1, q2⟩ := small_width h1
      have hl : s.data.toList.length = s.size := by simp
      have hnl := num_length s.size
      rw [List.cons_append, item.eq_def]
      simp only [show (8 : UInt8).toNat = 8 from rfl]
      rw [if_neg (by omega), if_neg (by omega : ¬ 8 < 8), if_neg (by omega), if_neg (by omega), if_pos trivial, List.append_assoc, count_num q1 h1 (by omega)]
      simp only
      rw [if_neg (by rw [List.length_append]; omega), List.take_append_of_le_length (by omega), List.take_of_length_le (by omega), List.drop_append_of_le_length (by omega), List.drop_of_length_le (by omega), str_eta, List.nil_append, List.length_cons, List.length_append, hl]
      congr 3; omega
    · rw [bytes_list, List.length_cons, List.length_append] at hp
      rw [bytes_list]
      obtain ⟨q1, q2⟩ := small_width (n := l.length) (by omega)
      have hnl := num_length l.length
      have hap := all_pos l
      rw [List.cons_append, item.eq_def]
      simp only [show (9 : UInt8).toNat = 9 from rfl]
      rw [if_neg (by omega), if_neg (by omega : ¬ 9 < 8), if_neg (by omega), if_neg (by omega), if_neg (by omega), List.append_assoc, count_num q1 h1 (by omega)]
      simp only
      rw [items_bytes ih l ow _ r (by simpa using h3) (by omega), List.length_cons, List.length_append]
      simp only
      congr 3; omega
end Cn
end Go.Proofs.YtdfkpjmljaanpaaDoor
namespace Go.Proofs.YtdfkpjmljaanpaaDoor
namespace Cn

theorem top_ne {n : Nat} (h : n < 2 ^ 64) (h0 : 0 < width n) : n / 256 ^ (width n - 1) % 256 ≠ 0 := by
  have hn : 0 < n := by
    rcases Nat.eq_zero_or_pos n with e | e
    · subst e; rw [width_zero] at h0; omega
    · exact e
  obtain ⟨h1, h2⟩ := width_ge h hn
  have h3 := width_lt h
  have h4 : n / 256 ^ (width n - 1) < 256 := by
    rw [Nat.div_lt_iff_lt_mul (Nat.pow_pos (by decide))]
    rw [show width n = width n - 1 + 1 by omega, Nat.pow_succ, Nat.mul_comm] at h3
    exact h3
  rw [Nat.mod_eq_of_lt h4]
  have : 0 < n / 256 ^ (width n - 1) := Nat.div_pos h2 (Nat.pow_pos (by decide))
  omega
theorem digits_cut0 {n j : Nat} (h : n < 2 ^ 64) (hj : j < width n) : digits (width n) true 0 ((be (width n) n).take j) = .error 7 :=
  digits_cut n _ true 0 j hj (fun _ => top_ne h (by omega))
theorem count_cut {most p ow n j : Nat} (h : n < 256 ^ 7) (hj : j < (num n).length) : count most p ow ((num n).take j) = .error 7 := by
  cases j with
  | zero => rfl
  | succ j =>
    have hw := width_le h (by decide)
    have h64 : n < 2 ^ 64 := Nat.lt_of_lt_of_le h (by decide)
    have hc : (UInt8.ofNat (width n)).toNat = width n := by rw [UInt8.toNat_ofNat']; omega
    rw [num_length] at hj
    rw [num, List.take_succ_cons, count, hc, if_neg (by omega), digits_cut0 h64 (by omega)]
theorem take_app (a b : List UInt8) (j : Nat) (h : ¬ j < a.length) : (a ++ b).take j = a ++ b.take (j - a.length) := by
  rw [List.take_append, List.take_of_length_le (by omega)]
theorem take_app_lt (a b : List UInt8) (j : Nat) (h : j < a.length) : (a ++ b).take j = a.take j := List.take_append_of_le_length (by omega)
theorem items_cut {d : Nat} (hcut : ∀ x ow p j, may x d = true → p + (Cn.bytes x).length + ow ≤ 65536 → j < (Cn.bytes x).length → item d ow p ((Cn.bytes x).take j) = .error 7) :
    ∀ (xs : List Pt) ow p j, mayAll xs d = true → p + (bytesAll xs).length + ow ≤ 65536 → j < (bytesAll xs).length → items (item d) xs.length ow p ((bytesAll xs).take j) = .error 7
  | [], ow, p, j, _, _, hj => by simp [bytesAll] at hj
  | x :: xs, ow, p, j, hm, hp, hj => by
    rw [mayAll, Bool.and_eq_true] at hm
    rw [bytesAll, List.length_append] at hp hj
    have := all_pos xs
    rw [List.length_cons, items, bytesAll]
    by_cases hlt : j < (Cn.bytes x).length
    · rw [take_app_lt _ _ _ hlt, hcut x _ p j hm.1 (by omega) hlt]
    · rw [take_app _ _ _ hlt, item_bytes d x _ p _ hm.1 (by omega)]
      simp only
      rw [items_cut hcut xs ow _ _ hm.2 (by omega) (by omega)]
theorem item_cut : ∀ d x ow p j, may x d = true → p + (Cn.bytes x).length + ow ≤ 65536 → j < (Cn.bytes x).length → item d ow p ((Cn.bytes x).take j) = .error 7 := by
  intro d
  induction d with
  | zero =>
    intro x ow p j hm hp hj
    cases j with
    | zero => simp [item]
    | succ j =>
      rcases may_cases hm with ⟨n, rfl, h0, h1⟩ | ⟨s, rfl, h1⟩ | ⟨l, rfl, h1, h2, h3⟩
      · rw [bytes_num] at hp hj ⊢
        obtain ⟨m, rfl⟩ : ∃ m : Nat, n = m := ⟨n.toNat, by omega⟩
        simp only [Int.toNat_natCast] at hp hj ⊢
        have hw := width7 (n := m) (by omega)
        have hc := ofNat_width hw (by decide)
        rw [num_length] at hp hj
        rw [num, List.take_succ_cons, item.eq_def]
        simp only [hc]
        rw [if_neg (by omega), if_pos (by omega : width m < 8), if_neg (by omega), if_pos (by omega), digits_cut0 (by omega) (by omega)]
      · rw [bytes_text, List.length_cons, List.length_append] at hp hj
        rw [bytes_text]
        obtain ⟨q1, q2⟩ := small_width h1
        have hl : s.data.toList.length = s.size := by simp
        have hnl := num_length s.size
        rw [List.take_succ_cons, item.eq_def]
        simp only [show (8 : UInt8).toNat = 8 from rfl]
        rw [if_neg (by omega), if_neg (by omega : ¬ 8 < 8), if_neg (by omega), if_neg (by omega), if_pos trivial]
        by_cases hlt : j < (num s.size).length
        · rw [take_app_lt _ _ _ hlt, count_cut q1 hlt]
        · rw [take_app _ _ _ hlt, count_num q1 h1 (by omega)]
          simp only
          rw [if_pos (by rw [List.length_take]; omega)]
      · omega
  | succ d ih =>
    intro x ow p j hm hp hj
    cases j with
    | zero => simp [item]
    | succ j =>
      rcases may_cases hm with ⟨n, rfl, h0, h1⟩ | ⟨s, rfl, h1⟩ | ⟨l, rfl, h1, h2, h3⟩
      · rw [bytes_num] at hp hj ⊢
        obtain ⟨m, rfl⟩ : ∃ m : Nat, n = m := ⟨n.toNat, by omega⟩
        simp only [Int.toNat_natCast] at hp hj ⊢
        have hw := width7 (n := m) (by omega)
        have hc := ofNat_width hw (by decide)
        rw [num_length] at hp hj
        rw [num, List.take_succ_cons, item.eq_def]
        simp only [hc]
        rw [if_neg (by omega), if_pos (by omega : width m < 8), if_neg (by omega), if_pos (by omega), digits_cut0 (by omega) (by omega)]
      · rw [bytes_text, List.length_cons, List.length_append] at hp hj
        rw [bytes_text]
        obtain ⟨q1, q2⟩ := small_width h1
        have hl : s.data.toList.length = s.size := by simp
        have hnl := num_length s.size
        rw [List.take_succ_cons, item.eq_def]
        simp only [show (8 : UInt8).toNat = 8 from rfl]
        rw [if_neg (by omega), if_neg (by omega : ¬ 8 < 8), if_neg (by omega), if_neg (by omega), if_pos trivial]
        by_cases hlt : j < (num s.size).length
        · rw [take_app_lt _ _ _ hlt, count_cut q1 hlt]
        · rw [take_app _ _ _ hlt, count_num q1 h1 (by omega)]
          simp only
          rw [if_pos (by rw [List.length_take]; omega)]
      · rw [bytes_list, List.length_cons, List.length_append] at hp hj
        rw [bytes_list]
        obtain ⟨q1, q2⟩ := small_width (n := l.length) (by omega)
        have hnl := num_length l.length
        have hap := all_pos l
        rw [List.take_succ_cons, item.eq_def]
        simp only [show (9 : UInt8).toNat = 9 from rfl]
        rw [if_neg (by omega), if_neg (by omega : ¬ 9 < 8), if_neg (by omega), if_neg (by omega), if_neg (by omega)]
        by_cases hlt : j < (num l.length).length
        · rw [take_app_lt _ _ _ hlt, count_cut q1 hlt]
        · rw [take_app _ _ _ hlt, count_num q1 h1 (by omega)]
          simp only
          rw [items_cut (fun x ow p j => ih x ow p j) l ow _ _ (by simpa using h3) (by omega) (by omega)]

mutual
/-- How great an item is, of which so many lists stand around; above most: one more than most. -/
def sizeP (most : Nat) : Pt → Nat → Nat
  | .mk _ _ s l, deep => if 8 < deep ∨ most < 1 + s.size then most + 1 else sizeAll most l (1 + s.size) deep
def sizeAll (most : Nat) : List Pt → Nat → Nat → Nat
  | [], acc, _ => acc
  | x :: r, acc, deep => if most < acc + sizeP most x (deep + 1) then most + 1 else sizeAll most r (acc + sizeP most x (deep + 1)) deep
end
theorem sizeAll_le (most deep : Nat) : ∀ (l : List Pt) (acc : Nat), acc ≤ most → sizeAll most l acc deep ≤ most + 1
  | [], acc, h => by rw [sizeAll]; omega
  | x :: r, acc, h => by
    rw [sizeAll]
    split
    · omega
    · exact sizeAll_le most deep r _ (by omega)
theorem sizeP_le (most : Nat) (x : Pt) (deep : Nat) : sizeP most x deep ≤ most + 1 := by
  obtain ⟨k, n, s, l⟩ := x
  rw [sizeP]
  split
  · omega
  · exact sizeAll_le most deep l _ (by omega)
end Cn
end Go.Proofs.YtdfkpjmljaanpaaDoor
