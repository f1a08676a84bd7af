/- What is read: it is what was written, and the other way round. Of no program. -/
import Derived.Test.YtefpfedpgedloaaGreatDoorCMath
import Derived.WideShapes
namespace Go.Proofs.YtefpfedpgedloaaGreatDoor
namespace Cn

theorem byte_eq (c : UInt8) (n : Nat) (h : c.toNat = n) : c = UInt8.ofNat n := UInt8.toNat_inj.1 (by rw [UInt8.toNat_ofNat', ← h]; have := UInt8.toNat_lt c; omega)
theorem size_toArray (l : List UInt8) : (ByteArray.mk l.toArray).size = l.length := by simp [ByteArray.size]
theorem items_ok {d : Nat} (hit : ∀ ow p l x q r, item d ow p l = .ok (x, q, r) → l = Cn.bytes x ++ r ∧ may x d = true ∧ q = p + (Cn.bytes x).length ∧ q + ow ≤ 65536) :
    ∀ n ow p l xs q r, items (item d) n ow p l = .ok (xs, q, r) → p + n + ow ≤ 65536 → xs.length = n ∧ l = bytesAll xs ++ r ∧ mayAll xs d = true ∧ q = p + (bytesAll xs).length ∧ q + ow ≤ 65536
  | 0, ow, p, l, xs, q, r, h, hp => by
    simp only [items, Except.ok.injEq, Prod.mk.injEq] at h
    obtain ⟨rfl, rfl, rfl⟩ := h
    exact ⟨rfl, rfl, rfl, rfl, by omega⟩
  | n + 1, ow, p, l, xs, q, r, h, hp => by
    rw [items] at h
    split at h
    · simp at h
    · rename_i x p' l' he
      obtain ⟨h1, h2, h3, h4⟩ := hit _ _ _ _ _ _ he
      split at h
      · simp at h
      · rename_i ys p'' l'' hes
        simp only [Except.ok.injEq, Prod.mk.injEq] at h
        obtain ⟨rfl, rfl, rfl⟩ := h
        obtain ⟨k1, k2, k3, k4, k5⟩ := items_ok hit n ow p' l' ys p'' l'' hes (by omega)
        refine ⟨by simp [k1], ?_, ?_, ?_, k5⟩
        · rw [h1, k2, bytesAll, List.append_assoc]
        · rw [mayAll, h2, k3]; rfl
        · rw [k4, h3, bytesAll, List.length_append, Nat.add_assoc]
theorem item_ok : ∀ d ow p l x q r, item d ow p l = .ok (x, q, r) → l = Cn.bytes x ++ r ∧ may x d = true ∧ q = p + (Cn.bytes x).length ∧ q + ow ≤ 65536
  | d, ow, p, [], x, q, r, h => by cases d <;> simp [item] at h
  | d, ow, p, c :: l, x, q, r, h => by
    rw [item.eq_def] at h
    by_cases hd : c.toNat = 9 ∧ d = 0
    · simp [hd] at h
    · simp only [if_neg hd] at h
      by_cases hroom : 9 < c.toNat ∨ 65536 < p + 1 + (if c.toNat < 8 then c.toNat else 1) + ow
      · simp [if_pos hroom] at h
      · simp only [if_neg hroom] at h
        by_cases hc8 : c.toNat < 8
        · simp only [if_pos hc8] at h hroom
          cases hdig : digits c.toNat true 0 l with
          | error e => rw [hdig] at h; simp at h
          | ok nr =>
            obtain ⟨n, r'⟩ := nr
            rw [hdig] at h
            simp only [Except.ok.injEq, Prod.mk.injEq] at h
            obtain ⟨rfl, rfl, rfl⟩ := h
            obtain ⟨h1, h2, h3, h4⟩ := digits_first (by omega) hdig
            have hb : Cn.bytes (.mk 1 n ⟨#[]⟩ []) = num n := by simp [Cn.bytes]
            rw [hb]
            refine ⟨?_, ?_, by rw [num_length, h1]; omega, by omega⟩
            · rw [num, h1, List.cons_append, ← h3, ← byte_eq c _ rfl]
            · have h256 : (256 : Nat) ^ 7 = 72057594037927936 := by decide
              have : (n : Int) ≤ 72057594037927935 := by omega
              simp [may, this]
              rfl
        · simp only [if_neg hc8] at h hroom
          by_cases hceq : c.toNat = 8
          · simp only [if_pos hceq] at h
            cases hcnt : count 65536 (p + 1) ow l with
            | error e => rw [hcnt] at h; simp at h
            | ok nr =>
              obtain ⟨n, p', r'⟩ := nr
              rw [hcnt] at h
              obtain ⟨h1, h2, h3, h4, h5⟩ := count_ok hcnt
              by_cases hlen : r'.length < n
              · simp [hlen] at h
              · simp only [if_neg hlen, Except.ok.injEq, Prod.mk.injEq] at h
                obtain ⟨rfl, rfl, rfl⟩ := h
                have hsz : (ByteArray.mk (r'.take n).toArray).size = n := by rw [size_toArray, List.length_take]; omega
                have hb : Cn.bytes (.mk 2 0 ⟨(r'.take n).toArray⟩ []) = 8 :: (num n ++ r'.take n) := by rw [Cn.bytes, if_neg (by decide), if_pos rfl, hsz]
                rw [hb]
                refine ⟨?_, ?_, ?_, by omega⟩
                · rw [h1, List.cons_append, List.append_assoc, List.take_append_drop, byte_eq c 8 (by omega)]; rfl
                · rw [may, if_neg (by decide), if_pos rfl, hsz]; simp; omega
                · rw [h4, List.length_cons, List.length_append, List.length_take]; omega
          · simp only [if_neg hceq] at h
            have hc9 : c.toNat = 9 := by omega
            match d, hd, h with
            | 0, hd, h => exact absurd ⟨hc9, rfl⟩ hd
            | d + 1, hd, h =>
              simp only at h
              cases hcnt : count 1024 (p + 1) ow l with
              | error e => rw [hcnt] at h; simp at h
              | ok nr =>
                obtain ⟨n, p', r'⟩ := nr
                rw [hcnt] at h
                simp only at h
                obtain ⟨h1, h2, h3, h4, h5⟩ := count_ok hcnt
                cases hits : items (item d) n ow p' r' with
                | error e => rw [hits] at h; simp at h
                | ok nr =>
                  obtain ⟨xs, p'', r''⟩ := nr
                  rw [hits] at h
                  simp only [Except.ok.injEq, Prod.mk.injEq] at h
                  obtain ⟨rfl, rfl, rfl⟩ := h
                  obtain ⟨k1, k2, k3, k4, k5⟩ := items_ok (fun ow p l x q r => item_ok d ow p l x q r) n ow p' r' xs p'' r'' hits h5
                  have hb : Cn.bytes (.mk 3 0 ⟨#[]⟩ xs) = 9 :: (num n ++ bytesAll xs) := by rw [Cn.bytes, if_neg (by decide), if_neg (by decide), k1]
                  rw [hb]
                  refine ⟨?_, ?_, ?_, k5⟩
                  · rw [h1, k2, List.cons_append, List.append_assoc, byte_eq c 9 hc9]; rfl
                  · rw [may, if_neg (by decide), if_neg (by decide), if_pos rfl, k1]
                    simp [h2, k3]
                    rfl
                  · rw [k4, h4, List.length_cons, List.length_append]; omega
theorem may_cases {x : Pt} {d : Nat} (h : may x d = true) : (∃ n, x = .mk 1 n ⟨#[]⟩ [] ∧ 0 ≤ n ∧ n ≤ 72057594037927935) ∨ (∃ s, x = .mk 2 0 s [] ∧ s.size ≤ 65536) ∨ (∃ l, x = .mk 3 0 ⟨#[]⟩ l ∧ l.length ≤ 1024 ∧ 0 < d ∧ mayAll l (d - 1) = true) := by
  obtain ⟨k, n, s, l⟩ := x
  have hs0 : s.size = 0 → s = ⟨#[]⟩ := fun h => by
    apply Go.WideShapes.bytes_inj
    rw [List.eq_nil_of_length_eq_zero (show s.data.toList.length = 0 by simpa using h)]
  rw [may] at h
  split at h
  · rename_i hk
    simp only [Bool.and_eq_true, decide_eq_true_eq] at h
    obtain ⟨⟨⟨h1, h2⟩, h3⟩, h4⟩ := h
    left
    exact ⟨n, by rw [hk, hs0 h3, List.eq_nil_of_length_eq_zero h4], h1, h2⟩
  · split at h
    · rename_i hk
      simp only [Bool.and_eq_true, decide_eq_true_eq] at h
      obtain ⟨⟨h1, h2⟩, h3⟩ := h
      right; left
      exact ⟨s, by rw [hk, h1, List.eq_nil_of_length_eq_zero h3], h2⟩
    · split at h
      · rename_i hk
        simp only [Bool.and_eq_true, decide_eq_true_eq] at h
        obtain ⟨⟨⟨⟨h1, h2⟩, h3⟩, h4⟩, h5⟩ := h
        right; right
        exact ⟨l, by rw [hk, h1, hs0 h2], h3, h4, h5⟩
      · simp at h
theorem bytes_num (n : Int) : Cn.bytes (.mk 1 n ⟨#[]⟩ []) = num n.toNat := by simp [Cn.bytes]
theorem bytes_text (s : ByteArray) : Cn.bytes (.mk 2 0 s []) = 8 :: (num s.size ++ s.data.toList) := by rw [Cn.bytes, if_neg (by decide), if_pos rfl]
theorem bytes_list (l : List Pt) : Cn.bytes (.mk 3 0 ⟨#[]⟩ l) = 9 :: (num l.length ++ bytesAll l) := by rw [Cn.bytes, if_neg (by decide), if_neg (by decide)]
theorem bytes_pos (x : Pt) : 0 < (Cn.bytes x).length := by
  obtain ⟨k, n, s, l⟩ := x
  rw [Cn.bytes]
  split
  · rw [num_length]; omega
  · split <;> simp
theorem all_pos : ∀ l : List Pt, l.length ≤ (bytesAll l).length
  | [] => Nat.le_refl _
  | x :: r => by have := bytes_pos x; have := all_pos r; rw [bytesAll, List.length_append, List.length_cons]; omega
theorem str_eta (s : ByteArray) : (⟨s.data.toList.toArray⟩ : ByteArray) = s := by cases s; rfl
/-- A text that fits is 65,536 bytes at most: so its length has few bytes. -/
theorem small_width {n : Nat} (h : n ≤ 65536) : n < 256 ^ 7 ∧ width n ≤ 3 := ⟨Nat.lt_of_le_of_lt h (by decide), width_le (k := 3) (Nat.lt_of_le_of_lt h (by decide)) (by decide)⟩
theorem width7 {n : Nat} (h : n ≤ 72057594037927935) : width n ≤ 7 := width_le (k := 7) (Nat.lt_of_le_of_lt h (by decide)) (by decide)
theorem ofNat_width {n k : Nat} (h : width n ≤ k) (hk : k ≤ 255) : (UInt8.ofNat (width n)).toNat = width n := by rw [UInt8.toNat_ofNat']; omega
theorem items_bytes {d : Nat} (hit : ∀ x ow p r, may x d = true → p + (Cn.bytes x).length + ow ≤ 65536 → item d ow p (Cn.bytes x ++ r) = .ok (x, p + (Cn.bytes x).length, r)) :
    ∀ (xs : List Pt) ow p r, mayAll xs d = true → p + (bytesAll xs).length + ow ≤ 65536 → items (item d) xs.length ow p (bytesAll xs ++ r) = .ok (xs, p + (bytesAll xs).length, r)
  | [], ow, p, r, _, _ => rfl
  | x :: xs, ow, p, r, hm, hp => by
    rw [mayAll, Bool.and_eq_true] at hm
    rw [bytesAll, List.length_append] at hp
    have := all_pos xs
    rw [List.length_cons, items, bytesAll, List.append_assoc, hit x _ p _ hm.1 (by omega)]
    simp only
    rw [items_bytes hit xs ow _ r hm.2 (by omega), List.length_append, Nat.add_assoc]
theorem item_bytes : ∀ d x ow p r, may x d = true → p + (Cn.bytes x).length + ow ≤ 65536 → item d ow p (Cn.bytes x ++ r) = .ok (x, p + (Cn.bytes x).length, r) := by
  intro d
  induction d with
  | zero =>
    intro x ow p r hm hp
    rcases may_cases hm with ⟨n, rfl, h0, h1⟩ | ⟨s, rfl, h1⟩ | ⟨l, rfl, h1, h2, h3⟩
    · rw [bytes_num] at hp ⊢
      obtain ⟨m, rfl⟩ : ∃ m : Nat, n = m := ⟨n.toNat, by omega⟩
      simp only [Int.toNat_natCast] at hp ⊢
      have hw := width7 (n := m) (by omega)
      have hc := ofNat_width hw (by decide)
      rw [num_length] at hp ⊢
      rw [num, List.cons_append, item.eq_def]
      simp only [hc]
      rw [if_neg (by omega), if_pos (by omega : width m < 8), if_neg (by omega), if_pos (by omega), digits_num (by omega)]
      simp only
      congr 3; omega
    · rw [bytes_text, List.length_cons, List.length_append] at hp
      rw [bytes_text]
      obtain ⟨q1, q2⟩ := small_width h1
      have hl : s.data.toList.length = s.size := by simp
      have hnl := num_length s.size
      rw [List.cons_append, item.eq_def]
      simp only [show (8 : UInt8).toNat = 8 from rfl]
      rw [if_neg (by omega), if_neg (by omega : ¬ 8 < 8), if_neg (by omega), if_neg (by omega), if_pos trivial, List.append_assoc, count_num q1 h1 (by omega)]
      simp only
      rw [if_neg (by rw [List.length_append]; omega), List.take_append_of_le_length (by omega), List.take_of_length_le (by omega), List.drop_append_of_le_length (by omega), List.drop_of_length_le (by omega), str_eta, List.nil_append, List.length_cons, List.length_append, hl]
      congr 3; omega
    · omega
  | succ d ih =>
    intro x ow p r hm hp
    rcases may_cases hm with ⟨n, rfl, h0, h1⟩ | ⟨s, rfl, h1⟩ | ⟨l, rfl, h1, h2, h3⟩
    · rw [bytes_num] at hp ⊢
      obtain ⟨m, rfl⟩ : ∃ m : Nat, n = m := ⟨n.toNat, by omega⟩
      simp only [Int.toNat_natCast] at hp ⊢
      have hw := width7 (n := m) (by omega)
      have hc := ofNat_width hw (by decide)
      rw [num_length] at hp ⊢
      rw [num, List.cons_append, item.eq_def]
      simp only [hc]
      rw [if_neg (by omega), if_pos (by omega : width m < 8), if_neg (by omega), if_pos (by omega), digits_num (by omega)]
      simp only
      congr 3; omega
    · rw [bytes_text, List.length_cons, List.length_append] at hp
      rw [bytes_text]
      obtain ⟨q1, q2⟩ := small_width h1
      have hl : s.data.toList.length = s.size := by simp
      have hnl := num_length s.size
      rw [List.cons_append, item.eq_def]
      simp only [show (8 : UInt8).toNat = 8 from rfl]
      rw [if_neg (by omega), if_neg (by omega : ¬ 8 < 8), if_neg (by omega), if_neg (by omega), if_pos trivial, List.append_assoc, count_num q1 h1 (by omega)]
      simp only
      rw [if_neg (by rw [List.length_append]; omega), List.take_append_of_le_length (by omega), List.take_of_length_le (by omega), List.drop_append_of_le_length (by omega), List.drop_of_length_le (by omega), str_eta, List.nil_append, List.length_cons, List.length_append, hl]
      congr 3; omega
    · rw [bytes_list, List.length_cons, List.length_append] at hp
      rw [bytes_list]
      obtain ⟨q1, q2⟩ := small_width (n := l.length) (by omega)
      have hnl := num_length l.length
      have hap := all_pos l
      rw [List.cons_append, item.eq_def]
      simp only [show (9 : UInt8).toNat = 9 from rfl]
      rw [if_neg (by omega), if_neg (by omega : ¬ 9 < 8), if_neg (by omega), if_neg (by omega), if_neg (by omega), List.append_assoc, count_num q1 h1 (by omega)]
      simp only
      rw [items_bytes ih l ow _ r (by simpa using h3) (by omega), List.length_cons, List.length_append]
      simp only
      congr 3; omega
end Cn
end Go.Proofs.YtefpfedpgedloaaGreatDoor
