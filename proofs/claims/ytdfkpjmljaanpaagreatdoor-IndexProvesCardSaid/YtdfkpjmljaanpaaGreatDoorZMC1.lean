/- MC1, what is wanted of it. -/
import Derived.WalkKit
import Derived.Lib.Hide
import Derived.Lib.BitFns
import Derived.WideShapes
namespace Go.Proofs.YtdfkpjmljaanpaaGreatDoor
namespace Cn
/-- How many bytes a number takes. -/
def width (n : Nat) : Nat := (Lib.bitLen n + 7) / 8
/-- The last k bytes of a number, the greatest first. -/
def be : Nat → Nat → List UInt8
  | 0, _ => []
  | k + 1, n => UInt8.ofNat (n / 256 ^ k) :: be k n
theorem be_length (n : Nat) : ∀ k, (be k n).length = k
  | 0 => rfl
  | k + 1 => by rw [be, List.length_cons, be_length n k]
def num (n : Nat) : List UInt8 := UInt8.ofNat (width n) :: be (width n) n
theorem num_length (n : Nat) : (num n).length = width n + 1 := by rw [num, List.length_cons, be_length]
theorem aux_bound : ∀ f n, n < 2 ^ f → n < 2 ^ Lib.bitLenAux f n ∧ (0 < n → 2 ^ Lib.bitLenAux f n ≤ 2 * n) ∧ Lib.bitLenAux f n ≤ f
  | 0, n, h => by have : n = 0 := by omega
                  subst this; simp [Lib.bitLenAux]
  | f + 1, n, h => by
    unfold Lib.bitLenAux
    by_cases h0 : n = 0
    · subst h0; simp
    · rw [if_neg h0]
      obtain ⟨h1, h2, h3⟩ := aux_bound f (n / 2) (by rw [Nat.pow_succ] at h; omega)
      rw [Nat.add_comm 1, Nat.pow_succ]
      refine ⟨by omega, fun _ => ?_, by omega⟩
      by_cases hh : n / 2 = 0
      · have : n = 1 := by omega
        subst this
        cases f with
        | zero => simp [Lib.bitLenAux]
        | succ f => simp [Lib.bitLenAux]
      · have := h2 (by omega); omega
theorem width_lt {n : Nat} (h : n < 2 ^ 64) : n < 256 ^ width n := by
  obtain ⟨h1, -, -⟩ := aux_bound 64 n h
  rw [show (256 : Nat) = 2 ^ 8 from rfl, ← Nat.pow_mul]
  refine Nat.lt_of_lt_of_le h1 (Nat.pow_le_pow_right (by decide) ?_)
  show Lib.bitLen n ≤ _
  unfold width; omega
theorem width_le {n k : Nat} (h : n < 256 ^ k) (hk : k ≤ 8) : width n ≤ k := by
  have h64 : n < 2 ^ 64 := Nat.lt_of_lt_of_le h (by rw [show (2 : Nat) ^ 64 = 256 ^ 8 from by decide]; exact Nat.pow_le_pow_right (by decide) hk)
  obtain ⟨-, h2, -⟩ := aux_bound 64 n h64
  by_cases h0 : n = 0
  · subst h0; exact Nat.le_trans (by decide : width 0 ≤ 0) (Nat.zero_le _)
  · have := h2 (by omega)
    have hb : 2 ^ Lib.bitLen n < 2 ^ (8 * k + 1) := by
      rw [Nat.pow_succ, Nat.pow_mul]; show 2 ^ Lib.bitLenAux 64 n < 256 ^ k * 2; omega
    have := (Nat.pow_lt_pow_iff_right (by decide : 1 < 2)).1 hb
    unfold width; omega
/-- So many bytes of a number; the first of them may not be 0. -/
def digits : Nat → Bool → Nat → List UInt8 → Except Int (Nat × List UInt8)
  | 0, _, acc, l => .ok (acc, l)
  | _ + 1, _, _, [] => .error 7
  | k + 1, f, acc, c :: l => if f = true ∧ c.toNat = 0 then .error 3 else digits k false (acc * 256 + c.toNat) l
/-- What digits read: they are the number's last bytes. -/
theorem digits_ok : ∀ k f acc l n r, digits k f acc l = .ok (n, r) → l.length = k + r.length ∧ acc * 256 ^ k ≤ n ∧ n < (acc + 1) * 256 ^ k ∧ l = be k n ++ r ∧ (f = true → 0 < k → 256 ^ (k - 1) ≤ n)
  | 0, f, acc, l, n, r, h => by
    simp only [digits, Except.ok.injEq, Prod.mk.injEq] at h
    obtain ⟨rfl, rfl⟩ := h
    simp [be]
  | k + 1, f, acc, [], n, r, h => by simp [digits] at h
  | k + 1, f, acc, c :: l, n, r, h => by
    rw [digits] at h
    split at h
    · simp at h
    · rename_i hf
      obtain ⟨h1, h2, h3, h4, -⟩ := digits_ok k false _ l n r h
      have hc := UInt8.toNat_lt c
      have e : n / 256 ^ k = acc * 256 + c.toNat := by
        refine Nat.div_eq_of_lt_le h2 ?_
        rw [Nat.add_mul] at h3 ⊢; exact h3
      have hb : UInt8.ofNat (n / 256 ^ k) = c := by
        refine UInt8.toNat_inj.1 ?_
        rw [e]; simp
      refine ⟨by simp [h1]; omega, ?_, ?_, ?_, fun hft _ => ?_⟩
      · rw [Nat.pow_succ, Nat.mul_comm (256 ^ k), ← Nat.mul_assoc]
        exact Nat.le_trans (Nat.mul_le_mul_right _ (by omega)) h2
      · rw [Nat.pow_succ, Nat.mul_comm (256 ^ k), ← Nat.mul_assoc]
        exact Nat.lt_of_lt_of_le h3 (Nat.mul_le_mul_right _ (by omega))
      · rw [be, List.cons_append, hb, ← h4]
      · have : 0 < c.toNat := by
          rcases Nat.eq_zero_or_pos c.toNat with e | e
          · exact absurd ⟨hft, e⟩ hf
          · exact e
        show 256 ^ (k + 1 - 1) ≤ n
        rw [Nat.add_sub_cancel]
        exact Nat.le_trans (Nat.le_mul_of_pos_left _ (by omega)) h2
theorem width_of {n k : Nat} (hk : k ≤ 8) (h : n < 256 ^ k) (h1 : 0 < k → 256 ^ (k - 1) ≤ n) : width n = k := by
  have a := width_le h hk
  have h64 : n < 2 ^ 64 := Nat.lt_of_lt_of_le h (by rw [show (2 : Nat) ^ 64 = 256 ^ 8 from by decide]; exact Nat.pow_le_pow_right (by decide) hk)
  rcases Nat.eq_zero_or_pos k with e | e
  · omega
  · have b := h1 e
    have c := width_lt h64
    have : 256 ^ (k - 1) < 256 ^ width n := Nat.lt_of_le_of_lt b c
    have := (Nat.pow_lt_pow_iff_right (by decide : 1 < 256)).1 this
    omega
theorem digits_first {k : Nat} {l : List UInt8} {n : Nat} {r : List UInt8} (hk : k ≤ 7) (h : digits k true 0 l = .ok (n, r)) : width n = k ∧ n < 256 ^ 7 ∧ l = be k n ++ r ∧ l.length = k + r.length := by
  obtain ⟨h1, -, h3, h4, h5⟩ := digits_ok _ _ _ _ _ _ h
  simp only [Nat.zero_add, Nat.one_mul] at h3
  exact ⟨width_of (by omega) h3 (h5 rfl), Nat.lt_of_lt_of_le h3 (Nat.pow_le_pow_right (by decide) hk), h4, h1⟩
/-- An item. -/
inductive Pt where
  | mk (k n : Int) (s : ByteArray) (l : List Pt)
mutual
def bytes : Pt → List UInt8
  | .mk k n s l => if k = 1 then num n.toNat else if k = 2 then 8 :: (num s.size ++ s.data.toList) else 9 :: (num l.length ++ bytesAll l)
def bytesAll : List Pt → List UInt8
  | [] => []
  | x :: r => bytes x ++ bytesAll r
end
mutual
/-- May an item be, in which so many lists may stand? -/
def may : Pt → Nat → Bool
  | .mk k n s l, d => if k = 1 then decide (0 ≤ n) && decide (n ≤ 72057594037927935) && decide (s.size = 0) && decide (l.length = 0)
    else if k = 2 then decide (n = 0) && decide (s.size ≤ 65536) && decide (l.length = 0)
    else if k = 3 then decide (n = 0) && decide (s.size = 0) && decide (l.length ≤ 1024) && decide (0 < d) && mayAll l (d - 1)
    else false
def mayAll : List Pt → Nat → Bool
  | [], _ => true
  | x :: r, d => may x d && mayAll r d
end
theorem bytesAll_append : ∀ a b, bytesAll (a ++ b) = bytesAll a ++ bytesAll b
  | [], b => by simp [bytesAll]
  | x :: r, b => by simp [bytesAll, bytesAll_append r b]
theorem mayAll_append (d : Nat) : ∀ a b, mayAll (a ++ b) d = (mayAll a d && mayAll b d)
  | [], b => by simp [mayAll]
  | x :: r, b => by simp [mayAll, mayAll_append d r b, Bool.and_assoc]
/-- A count of bytes or items. -/
def count (most p ow : Nat) : List UInt8 → Except Int (Nat × Nat × List UInt8)
  | [] => .error 7
  | c :: r => if 7 < c.toNat then .error 3 else
    match digits c.toNat true 0 r with
    | .error e => .error e
    | .ok (n, r') => if most < n ∨ 65536 < p + 1 + c.toNat + n + ow then .error 3 else .ok (n, p + 1 + c.toNat, r')
def items (f : Nat → Nat → List UInt8 → Except Int (Pt × Nat × List UInt8)) : Nat → Nat → Nat → List UInt8 → Except Int (List Pt × Nat × List UInt8)
  | 0, _, p, l => .ok ([], p, l)
  | n + 1, ow, p, l => match f (ow + n) p l with
    | .error e => .error e
    | .ok (x, p', l') => match items f n ow p' l' with
      | .error e => .error e
      | .ok (xs, p'', l'') => .ok (x :: xs, p'', l'')
/-- The item at the front of bytes, in which so many lists may stand, behind which so many are owed, from which place on. -/
def item : Nat → Nat → Nat → List UInt8 → Except Int (Pt × Nat × List UInt8)
  | _, _, _, [] => .error 7
  | d, ow, p, c :: r =>
    if c.toNat = 9 ∧ d = 0 then .error 3
    else if 9 < c.toNat ∨ 65536 < p + 1 + (if c.toNat < 8 then c.toNat else 1) + ow then .error 3
    else if c.toNat < 8 then
      match digits c.toNat true 0 r with
      | .error e => .error e
      | .ok (n, r') => .ok (.mk 1 n ⟨#[]⟩ [], p + 1 + c.toNat, r')
    else if c.toNat = 8 then
      match count 65536 (p + 1) ow r with
      | .error e => .error e
      | .ok (n, p', r') => if r'.length < n then .error 7 else .ok (.mk 2 0 ⟨(r'.take n).toArray⟩ [], p' + n, r'.drop n)
    else match d with
      | 0 => .error 3
      | d + 1 => match count 1024 (p + 1) ow r with
        | .error e => .error e
        | .ok (n, p', r') => match items (item d) n ow p' r' with
          | .error e => .error e
          | .ok (xs, p'', r'') => .ok (.mk 3 0 ⟨#[]⟩ xs, p'', r'')
theorem count_ok {most p ow n p' : Nat} {l r : List UInt8} (h : count most p ow l = .ok (n, p', r)) : l = num n ++ r ∧ n ≤ most ∧ n < 256 ^ 7 ∧ p' = p + (num n).length ∧ p' + n + ow ≤ 65536 := by
  cases l with
  | nil => simp [count] at h
  | cons c l =>
    rw [count] at h
    split at h
    · simp at h
    · split at h
      · simp at h
      · rename_i hd
        split at h
        · simp at h
        · rename_i hc hb
          simp only [Except.ok.injEq, Prod.mk.injEq] at h
          obtain ⟨rfl, rfl, rfl⟩ := h
          obtain ⟨h1, h2, h3, h4⟩ := digits_first (by omega) hd
          refine ⟨?_, by omega, h2, by rw [num_length, h1]; omega, by omega⟩
          rw [num, h1, List.cons_append, ← h3]
          congr 1
          exact (UInt8.toNat_inj.1 (by rw [UInt8.toNat_ofNat']; have := UInt8.toNat_lt c; omega)).symm
end Cn
end Go.Proofs.YtdfkpjmljaanpaaGreatDoor
namespace Go.Proofs.YtdfkpjmljaanpaaGreatDoor
namespace Cn
theorem byte_eq (c : UInt8) (n : Nat) (h : c.toNat = n) : c = UInt8.ofNat n := UInt8.toNat_inj.1 (by rw [UInt8.toNat_ofNat', ← h]; have := UInt8.toNat_lt c; omega)
theorem size_toArray (l : List UInt8) : (ByteArray.mk l.toArray).size = l.length := by simp [ByteArray.size]
theorem items_ok {d : Nat} (hit : ∀ ow p l x q r, item d ow p l = .ok (x, q, r) → l = Cn.bytes x ++ r ∧ may x d = true ∧ q = p + (Cn.bytes x).length ∧ q + ow ≤ 65536) :
    ∀ n ow p l xs q r, items (item d) n ow p l = .ok (xs, q, r) → p + n + ow ≤ 65536 → xs.length = n ∧ l = bytesAll xs ++ r ∧ mayAll xs d = true ∧ q = p + (bytesAll xs).length ∧ q + ow ≤ 65536
  | 0, ow, p, l, xs, q, r, h, hp => by
    simp only [items, Except.ok.injEq, Prod.mk.injEq] at h
    obtain ⟨rfl, rfl, rfl⟩ := h
    exact ⟨rfl, rfl, rfl, rfl, by omega⟩
  | n + 1, ow, p, l, xs, q, r, h, hp => by
    rw [items] at h
    split at h
    · simp at h
    · rename_i x p' l' he
      obtain ⟨h1, h2, h3, h4⟩ := hit _ _ _ _ _ _ he
      split at h
      · simp at h
      · rename_i ys p'' l'' hes
        simp only [Except.ok.injEq, Prod.mk.injEq] at h
        obtain ⟨rfl, rfl, rfl⟩ := h
        obtain ⟨k1, k2, k3, k4, k5⟩ := items_ok hit n ow p' l' ys p'' l'' hes (by omega)
        refine ⟨by simp [k1], ?_, ?_, ?_, k5⟩
        · rw [h1, k2, bytesAll, List.append_assoc]
        · rw [mayAll, h2, k3]; rfl
        · rw [k4, h3, bytesAll, List.length_append, Nat.add_assoc]
theorem item_ok : ∀ d ow p l x q r, item d ow p l = .ok (x, q, r) → l = Cn.bytes x ++ r ∧ may x d = true ∧ q = p + (Cn.bytes x).length ∧ q + ow ≤ 65536
  | d, ow, p, [], x, q, r, h => by cases d <;> simp [item] at h
  | d, ow, p, c :: l, x, q, r, h => by
    rw [item.eq_def] at h
    by_cases hd : c.toNat = 9 ∧ d = 0
    · simp [hd] at h
    · simp only [if_neg hd] at h
      by_cases hroom : 9 < c.toNat ∨ 65536 < p + 1 + (if c.toNat < 8 then c.toNat else 1) + ow
      · simp [if_pos hroom] at h
      · simp only [if_neg hroom] at h
        by_cases hc8 : c.toNat < 8
        · simp only [if_pos hc8] at h hroom
          cases hdig : digits c.toNat true 0 l with
          | error e => rw [hdig] at h; simp at h
          | ok nr =>
            obtain ⟨n, r'⟩ := nr
            rw [hdig] at h
            simp only [Except.ok.injEq, Prod.mk.injEq] at h
            obtain ⟨rfl, rfl, rfl⟩ := h
            obtain ⟨h1, h2, h3, h4⟩ := digits_first (by omega) hdig
            have hb : Cn.bytes (.mk 1 n ⟨#[]⟩ []) = num n := by simp [Cn.bytes]
            rw [hb]
            refine ⟨?_, ?_, by rw [num_length, h1]; omega, by omega⟩
            · rw [num, h1, List.cons_append, ← h3, ← byte_eq c _ rfl]
            · have h256 : (256 : Nat) ^ 7 = 72057594037927936 := by decide
              have : (n : Int) ≤ 72057594037927935 := by omega
              simp [may, this]
              rfl
        · simp only [if_neg hc8] at h hroom
          by_cases hceq : c.toNat = 8
          · simp only [if_pos hceq] at h
            cases hcnt : count 65536 (p + 1) ow l with
            | error e => rw [hcnt] at h; simp at h
            | ok nr =>
              obtain ⟨n, p', r'⟩ := nr
              rw [hcnt] at h
              obtain ⟨h1, h2, h3, h4, h5⟩ := count_ok hcnt
              by_cases hlen : r'.length < n
              · simp [hlen] at h
              · simp only [if_neg hlen, Except.ok.injEq, Prod.mk.injEq] at h
                obtain ⟨rfl, rfl, rfl⟩ := h
                have hsz : (ByteArray.mk (r'.take n).toArray).size = n := by rw [size_toArray, List.length_take]; omega
                have hb : Cn.bytes (.mk 2 0 ⟨(r'.take n).toArray⟩ []) = 8 :: (num n ++ r'.take n) := by rw [Cn.bytes, if_neg (by decide), if_pos rfl, hsz]
                rw [hb]
                refine ⟨?_, ?_, ?_, by omega⟩
                · rw [h1, List.cons_append, List.append_assoc, List.take_append_drop, byte_eq c 8 (by omega)]; rfl
                · rw [may, if_neg (by decide), if_pos rfl, hsz]; simp; omega
                · rw [h4, List.length_cons, List.length_append, List.length_take]; omega
          · simp only [if_neg hceq] at h
            have hc9 : c.toNat = 9 := by omega
            match d, hd, h with
            | 0, hd, h => exact absurd ⟨hc9, rfl⟩ hd
            | d + 1, hd, h =>
              simp only at h
              cases hcnt : count 1024 (p + 1) ow l with
              | error e => rw [hcnt] at h; simp at h
              | ok nr =>
                obtain ⟨n, p', r'⟩ := nr
                rw [hcnt] at h
                simp only at h
                obtain ⟨h1, h2, h3, h4, h5⟩ := count_ok hcnt
                cases hits : items (item d) n ow p' r' with
                | error e => rw [hits] at h; simp at h
                | ok nr =>
                  obtain ⟨xs, p'', r''⟩ := nr
                  rw [hits] at h
                  simp only [Except.ok.injEq, Prod.mk.injEq] at h
                  obtain ⟨rfl, rfl, rfl⟩ := h
                  obtain ⟨k1, k2, k3, k4, k5⟩ := items_ok (fun ow p l x q r => item_ok d ow p l x q r) n ow p' r' xs p'' r'' hits h5
                  have hb : Cn.bytes (.mk 3 0 ⟨#[]⟩ xs) = 9 :: (num n ++ bytesAll xs) := by rw [Cn.bytes, if_neg (by decide), if_neg (by decide), k1]
                  rw [hb]
                  refine ⟨?_, ?_, ?_, k5⟩
                  · rw [h1, k2, List.cons_append, List.append_assoc, byte_eq c 9 hc9]; rfl
                  · rw [may, if_neg (by decide), if_neg (by decide), if_pos rfl, k1]
                    simp [h2, k3]
                    rfl
                  · rw [k4, h4, List.length_cons, List.length_append]; omega
theorem bytes_num (n : Int) : Cn.bytes (.mk 1 n ⟨#[]⟩ []) = num n.toNat := by simp [Cn.bytes]
theorem bytes_text (s : ByteArray) : Cn.bytes (.mk 2 0 s []) = 8 :: (num s.size ++ s.data.toList) := by rw [Cn.bytes, if_neg (by decide), if_pos rfl]
theorem bytes_list (l : List Pt) : Cn.bytes (.mk 3 0 ⟨#[]⟩ l) = 9 :: (num l.length ++ bytesAll l) := by rw [Cn.bytes, if_neg (by decide), if_neg (by decide)]
end Cn
end Go.Proofs.YtdfkpjmljaanpaaGreatDoor
namespace Go.Proofs.YtdfkpjmljaanpaaGreatDoor
namespace Cn
end Cn
end Go.Proofs.YtdfkpjmljaanpaaGreatDoor
