/- The reference's reader, by definition; where it reads something, canon reads the same, and the other way round. Of no program. -/
import Derived.Test.YtdfkpjmljaanpaaDoorMC1
namespace Go.Proofs.YtdfkpjmljaanpaaDoor
namespace Cn

/-- A byte from a place on. -/
def oct (p : Nat) (l : List UInt8) : Except Int (UInt8 × List UInt8) :=
  if 65536 ≤ p then .error 3 else match l with
    | [] => .error 7
    | c :: r => .ok (c, r)
theorem oct_ok {p : Nat} {l r : List UInt8} {c : UInt8} : oct p l = .ok (c, r) ↔ p < 65536 ∧ l = c :: r := by
  unfold oct
  by_cases h : 65536 ≤ p
  · rw [if_pos h]; constructor
    · intro e; cases e
    · intro e; omega
  · rw [if_neg h]
    cases l with
    | nil => constructor
             · intro e; cases e
             · rintro ⟨-, e⟩; cases e
    | cons d l =>
      simp only [Except.ok.injEq, Prod.mk.injEq, List.cons.injEq]
      constructor
      · intro e; exact ⟨by omega, e⟩
      · intro e; exact e.2
def rdig : Nat → Bool → Nat → Nat → List UInt8 → Except Int (Nat × List UInt8)
  | 0, _, acc, _, l => .ok (acc, l)
  | k + 1, f, acc, p, l => match oct p l with
    | .error e => .error e
    | .ok (c, r) => if f = true ∧ c.toNat = 0 then .error 3 else rdig k false (acc * 256 + c.toNat) (p + 1) r
def rnum (p : Nat) (l : List UInt8) : Except Int (Nat × Nat × List UInt8) :=
  match oct p l with
  | .error e => .error e
  | .ok (c, r) => if 7 < c.toNat then .error 3 else match rdig c.toNat true 0 (p + 1) r with
    | .error e => .error e
    | .ok (n, r') => .ok (n, p + 1 + c.toNat, r')
def ritems (f : Nat → List UInt8 → Except Int (Pt × Nat × List UInt8)) : Nat → Nat → List UInt8 → Except Int (List Pt × Nat × List UInt8)
  | 0, p, l => .ok ([], p, l)
  | n + 1, p, l => match f p l with
    | .error e => .error e
    | .ok (x, p', l') => match ritems f n p' l' with
      | .error e => .error e
      | .ok (xs, p'', l'') => .ok (x :: xs, p'', l'')
def rtext (q n : Nat) (r : List UInt8) : Except Int (Pt × Nat × List UInt8) :=
  if 65536 < q + n then .error 3 else if r.length < n then .error 7 else .ok (.mk 2 0 ⟨(r.take n).toArray⟩ [], q + n, r.drop n)
def ritem : Nat → Nat → List UInt8 → Except Int (Pt × Nat × List UInt8)
  | d, p, l => match oct p l with
    | .error e => .error e
    | .ok (c, r) =>
      if c.toNat ≠ 8 ∧ c.toNat ≠ 9 then match rnum p l with
        | .error e => .error e
        | .ok (n, q, r') => .ok (.mk 1 n ⟨#[]⟩ [], q, r')
      else if c.toNat = 9 ∧ d = 0 then .error 3
      else match rnum (p + 1) r with
        | .error e => .error e
        | .ok (n, q, r') =>
          if c.toNat = 8 then rtext q n r'
          else if 1024 < n then .error 3
          else match d with
            | 0 => .error 3
            | d + 1 => match ritems (ritem d) n q r' with
              | .error e => .error e
              | .ok (xs, q', r'') => .ok (.mk 3 0 ⟨#[]⟩ xs, q', r'')

theorem rdig_ok : ∀ k f acc p l n r, rdig k f acc p l = .ok (n, r) → digits k f acc l = .ok (n, r) ∧ (k = 0 ∨ p + k ≤ 65536)
  | 0, f, acc, p, l, n, r, h => ⟨h, .inl rfl⟩
  | k + 1, f, acc, p, l, n, r, h => by
    rw [rdig] at h
    split at h
    · cases h
    · rename_i c r' ho
      obtain ⟨h1, rfl⟩ := oct_ok.1 ho
      split at h
      · cases h
      · rename_i hf
        obtain ⟨h2, h3⟩ := rdig_ok k false _ _ _ n r h
        exact ⟨by rw [digits, if_neg hf]; exact h2, .inr (by omega)⟩
theorem rdig_of : ∀ k f acc p l n r, digits k f acc l = .ok (n, r) → (k = 0 ∨ p + k ≤ 65536) → rdig k f acc p l = .ok (n, r)
  | 0, f, acc, p, l, n, r, h, _ => h
  | k + 1, f, acc, p, [], n, r, h, _ => by cases h
  | k + 1, f, acc, p, c :: l, n, r, h, hp => by
    rw [digits] at h
    split at h
    · cases h
    · rename_i hf
      rw [rdig, oct_ok.2 ⟨by omega, rfl⟩]
      simp only
      rw [if_neg hf]
      exact rdig_of k false _ _ _ n r h (by omega)
theorem rnum_ok {p n q : Nat} {l r : List UInt8} (h : rnum p l = .ok (n, q, r)) : l = num n ++ r ∧ n < 256 ^ 7 ∧ q = p + (num n).length ∧ q ≤ 65536 := by
  unfold rnum at h
  split at h
  · cases h
  · rename_i c r' ho
    obtain ⟨h1, rfl⟩ := oct_ok.1 ho
    split at h
    · cases h
    · rename_i h7
      split at h
      · cases h
      · rename_i m r'' hd
        simp only [Except.ok.injEq, Prod.mk.injEq] at h
        obtain ⟨rfl, rfl, rfl⟩ := h
        obtain ⟨h2, h3⟩ := rdig_ok _ _ _ _ _ _ _ hd
        obtain ⟨k1, k2, k3, k4⟩ := digits_first (by omega) h2
        refine ⟨?_, k2, by rw [num_length, k1]; omega, by omega⟩
        rw [num, k1, List.cons_append, ← k3, ← byte_eq c _ rfl]
theorem rnum_of {p n : Nat} (h : n < 256 ^ 7) (hp : p + (num n).length ≤ 65536) (r : List UInt8) : rnum p (num n ++ r) = .ok (n, p + (num n).length, r) := by
  have hw := width_le h (by decide : 7 ≤ 8)
  have h64 : n < 2 ^ 64 := Nat.lt_of_lt_of_le h (by decide)
  have hc : (UInt8.ofNat (width n)).toNat = width n := by rw [UInt8.toNat_ofNat']; omega
  rw [num_length] at hp ⊢
  unfold rnum
  rw [num, List.cons_append, oct_ok.2 ⟨by omega, rfl⟩]
  simp only
  rw [hc, if_neg (by omega), rdig_of _ _ _ _ _ n r (digits_num h64 r) (by omega)]
  simp only
  rw [Nat.add_assoc, Nat.add_comm 1]
theorem ritems_ok {d : Nat} (hit : ∀ p l x q r, ritem d p l = .ok (x, q, r) → l = Cn.bytes x ++ r ∧ may x d = true ∧ q = p + (Cn.bytes x).length ∧ q ≤ 65536) :
    ∀ n p l xs q r, ritems (ritem d) n p l = .ok (xs, q, r) → p ≤ 65536 → xs.length = n ∧ l = bytesAll xs ++ r ∧ mayAll xs d = true ∧ q = p + (bytesAll xs).length ∧ q ≤ 65536
  | 0, p, l, xs, q, r, h, hp => by
    simp only [ritems, Except.ok.injEq, Prod.mk.injEq] at h
    obtain ⟨rfl, rfl, rfl⟩ := h
    exact ⟨rfl, rfl, rfl, rfl, by omega⟩
  | n + 1, p, l, xs, q, r, h, hp => by
    rw [ritems] at h
    split at h
    · cases h
    · rename_i x p' l' he
      obtain ⟨h1, h2, h3, h4⟩ := hit _ _ _ _ _ he
      split at h
      · cases h
      · rename_i ys p'' l'' hes
        simp only [Except.ok.injEq, Prod.mk.injEq] at h
        obtain ⟨rfl, rfl, rfl⟩ := h
        obtain ⟨k1, k2, k3, k4, k5⟩ := ritems_ok hit n p' l' ys p'' l'' hes h4
        refine ⟨by simp [k1], ?_, ?_, ?_, k5⟩
        · rw [h1, k2, bytesAll, List.append_assoc]
        · rw [mayAll, h2, k3]; rfl
        · rw [k4, h3, bytesAll, List.length_append, Nat.add_assoc]
theorem ritem_ok : ∀ d p l x q r, ritem d p l = .ok (x, q, r) → l = Cn.bytes x ++ r ∧ may x d = true ∧ q = p + (Cn.bytes x).length ∧ q ≤ 65536
  | d, p, l, x, q, r, h => by
    rw [ritem.eq_def] at h
    simp only at h
    cases ho : oct p l with
    | error e => rw [ho] at h; cases h
    | ok cr =>
      obtain ⟨c, l'⟩ := cr
      rw [ho] at h
      obtain ⟨hp, rfl⟩ := oct_ok.1 ho
      simp only at h
      by_cases hc : c.toNat ≠ 8 ∧ c.toNat ≠ 9
      · rw [if_pos hc] at h
        cases hn : rnum p (c :: l') with
        | error e => rw [hn] at h; cases h
        | ok nr =>
          obtain ⟨n, q', r'⟩ := nr
          rw [hn] at h
          simp only [Except.ok.injEq, Prod.mk.injEq] at h
          obtain ⟨rfl, rfl, rfl⟩ := h
          obtain ⟨h1, h2, h3, h4⟩ := rnum_ok hn
          have hb : Cn.bytes (.mk 1 n ⟨#[]⟩ []) = num n := by simp [Cn.bytes]
          rw [hb]
          refine ⟨h1, ?_, h3, h4⟩
          have h256 : (256 : Nat) ^ 7 = 72057594037927936 := by decide
          have : (n : Int) ≤ 72057594037927935 := by omega
          simp [may, this]
          rfl
      · rw [if_neg hc] at h
        by_cases hd : c.toNat = 9 ∧ d = 0
        · rw [if_pos hd] at h; cases h
        · rw [if_neg hd] at h
          cases hn : rnum (p + 1) l' with
          | error e => rw [hn] at h; cases h
          | ok nr =>
            obtain ⟨n, q', r'⟩ := nr
            rw [hn] at h
            simp only at h
            obtain ⟨h1, h2, h3, h4⟩ := rnum_ok hn
            by_cases hc8 : c.toNat = 8
            · rw [if_pos hc8] at h
              unfold rtext at h
              by_cases hb1 : 65536 < q' + n
              · rw [if_pos hb1] at h; cases h
              · rw [if_neg hb1] at h
                by_cases hb2 : r'.length < n
                · rw [if_pos hb2] at h; cases h
                · rw [if_neg hb2] at h
                  simp only [Except.ok.injEq, Prod.mk.injEq] at h
                  obtain ⟨rfl, rfl, rfl⟩ := h
                  have hsz : (ByteArray.mk (r'.take n).toArray).size = n := by rw [size_toArray, List.length_take]; omega
                  have hb : Cn.bytes (.mk 2 0 ⟨(r'.take n).toArray⟩ []) = 8 :: (num n ++ r'.take n) := by rw [Cn.bytes, if_neg (by decide), if_pos rfl, hsz]
                  rw [hb]
                  refine ⟨?_, ?_, ?_, by omega⟩
                  · rw [h1, List.cons_append, List.append_assoc, List.take_append_drop, byte_eq c 8 hc8]; rfl
                  · rw [may, if_neg (by decide), if_pos rfl, hsz]; simp; omega
                  · rw [h3, List.length_cons, List.length_append, List.length_take]; omega
            · rw [if_neg hc8] at h
              have hc9 : c.toNat = 9 := by omega
              by_cases hn1 : 1024 < n
              · rw [if_pos hn1] at h; cases h
              · rw [if_neg hn1] at h
                match d, hd, h with
                | 0, hd, h => exact absurd ⟨hc9, rfl⟩ hd
                | d + 1, hd, h =>
                  simp only at h
                  cases hits : ritems (ritem d) n q' r' with
                  | error e => rw [hits] at h; cases h
                  | ok nr =>
                    obtain ⟨xs, p'', r''⟩ := nr
                    rw [hits] at h
                    simp only [Except.ok.injEq, Prod.mk.injEq] at h
                    obtain ⟨rfl, rfl, rfl⟩ := h
                    obtain ⟨k1, k2, k3, k4, k5⟩ := ritems_ok (fun p l x q r => ritem_ok d p l x q r) n q' r' xs p'' r'' hits h4
                    have hb : Cn.bytes (.mk 3 0 ⟨#[]⟩ xs) = 9 :: (num n ++ bytesAll xs) := by rw [Cn.bytes, if_neg (by decide), if_neg (by decide), k1]
                    rw [hb]
                    refine ⟨?_, ?_, ?_, k5⟩
                    · rw [h1, k2, List.cons_append, List.append_assoc, byte_eq c 9 hc9]; rfl
                    · rw [may, if_neg (by decide), if_neg (by decide), if_pos rfl, k1]
                      simp [k3]
                      refine ⟨rfl, ?_⟩
                      omega
                    · rw [k4, h3, List.length_cons, List.length_append]; omega
theorem ritems_bytes {d : Nat} (hit : ∀ x p r, may x d = true → p + (Cn.bytes x).length ≤ 65536 → ritem d p (Cn.bytes x ++ r) = .ok (x, p + (Cn.bytes x).length, r)) :
    ∀ (xs : List Pt) p r, mayAll xs d = true → p + (bytesAll xs).length ≤ 65536 → ritems (ritem d) xs.length p (bytesAll xs ++ r) = .ok (xs, p + (bytesAll xs).length, r)
  | [], p, r, _, _ => rfl
  | x :: xs, p, r, hm, hp => by
    rw [mayAll, Bool.and_eq_true] at hm
    rw [bytesAll, List.length_append] at hp
    rw [List.length_cons, ritems, bytesAll, List.append_assoc, hit x p _ hm.1 (by omega)]
    simp only
    rw [ritems_bytes hit xs _ r hm.2 (by omega), List.length_append, Nat.add_assoc]
theorem num_head (n : Nat) (h : n < 256 ^ 7) : ∃ r, num n = UInt8.ofNat (width n) :: r ∧ (UInt8.ofNat (width n)).toNat = width n ∧ width n ≤ 7 := by
  have hw := width_le h (by decide : 7 ≤ 8)
  exact ⟨be (width n) n, rfl, by rw [UInt8.toNat_ofNat']; omega, hw⟩
theorem ritem_flat {d : Nat} {x : Pt} {p : Nat} {r : List UInt8} (hk : (∃ n, x = .mk 1 n ⟨#[]⟩ [] ∧ 0 ≤ n ∧ n ≤ 72057594037927935) ∨ (∃ s, x = .mk 2 0 s [] ∧ s.size ≤ 65536)) (hp : p + (Cn.bytes x).length ≤ 65536) :
    ritem d p (Cn.bytes x ++ r) = .ok (x, p + (Cn.bytes x).length, r) := by
  rcases hk with ⟨n, rfl, h0, h1⟩ | ⟨s, rfl, h1⟩
  · rw [bytes_num] at hp ⊢
    obtain ⟨m, rfl⟩ : ∃ m : Nat, n = m := ⟨n.toNat, by omega⟩
    simp only [Int.toNat_natCast] at hp ⊢
    have hm : m < 256 ^ 7 := by have : (256 : Nat) ^ 7 = 72057594037927936 := by decide
                                omega
    have hr := rnum_of (p := p) hm hp r
    obtain ⟨t, e1, e2, e3⟩ := num_head m hm
    rw [ritem.eq_def]
    simp only
    have ho : oct p (num m ++ r) = .ok (UInt8.ofNat (width m), t ++ r) := oct_ok.2 ⟨by rw [num_length] at hp; omega, by rw [e1]; rfl⟩
    rw [ho]
    simp only
    rw [e2, if_pos (by omega), hr]
  · rw [bytes_text, List.length_cons, List.length_append] at hp
    rw [bytes_text]
    obtain ⟨q1, q2⟩ := small_width h1
    have hl : s.data.toList.length = s.size := by simp
    have hr := rnum_of (p := p + 1) (n := s.size) q1 (by omega) (s.data.toList ++ r)
    rw [List.cons_append, ritem.eq_def]
    simp only
    rw [oct_ok.2 ⟨by omega, rfl⟩]
    simp only [show (8 : UInt8).toNat = 8 from rfl]
    rw [if_neg (by omega), if_neg (by omega), List.append_assoc, hr]
    simp only
    rw [if_pos trivial]
    unfold rtext
    rw [if_neg (by omega), if_neg (by rw [List.length_append]; omega), List.take_append_of_le_length (by omega), List.take_of_length_le (by omega), List.drop_append_of_le_length (by omega), List.drop_of_length_le (by omega), str_eta, List.nil_append, List.length_cons, List.length_append, hl]
    congr 3; omega
theorem ritem_bytes : ∀ d x p r, may x d = true → p + (Cn.bytes x).length ≤ 65536 → ritem d p (Cn.bytes x ++ r) = .ok (x, p + (Cn.bytes x).length, r) := by
  intro d
  induction d with
  | zero =>
    intro x p r hm hp
    rcases may_cases hm with h | h | ⟨l, rfl, h1, h2, h3⟩
    · exact ritem_flat (.inl h) hp
    · exact ritem_flat (.inr h) hp
    · omega
  | succ d ih =>
    intro x p r hm hp
    rcases may_cases hm with h | h | ⟨l, rfl, h1, h2, h3⟩
    · exact ritem_flat (.inl h) hp
    · exact ritem_flat (.inr h) hp
    · rw [bytes_list, List.length_cons, List.length_append] at hp
      rw [bytes_list]
      obtain ⟨q1, q2⟩ := small_width (n := l.length) (by omega)
      have hr := rnum_of (p := p + 1) (n := l.length) q1 (by omega) (bytesAll l ++ r)
      rw [List.cons_append, ritem.eq_def]
      simp only
      rw [oct_ok.2 ⟨by omega, rfl⟩]
      simp only [show (9 : UInt8).toNat = 9 from rfl]
      rw [if_neg (by omega), if_neg (by omega), List.append_assoc, hr]
      simp only
      rw [if_neg (by omega), if_neg (by omega), ritems_bytes ih l _ r (by simpa using h3) (by omega), List.length_cons, List.length_append]
      simp only
      congr 3; omega
/-- Both read the same, where one of them reads. -/
theorem ritem_item {d p : Nat} {l : List UInt8} {x : Pt} {q : Nat} {r : List UInt8} : ritem d p l = .ok (x, q, r) ↔ item d 0 p l = .ok (x, q, r) := by
  constructor
  · intro h
    obtain ⟨rfl, h2, rfl, h4⟩ := ritem_ok d p l x q r h
    exact item_bytes d x 0 p r h2 (by omega)
  · intro h
    obtain ⟨rfl, h2, rfl, h4⟩ := item_ok d 0 p l x q r h
    exact ritem_bytes d x p r h2 (by omega)
/-- What the reference's Decode makes of bytes. -/
def rdecR (l : List UInt8) : Except Int Pt :=
  match ritem 6 0 l with
  | .error x => .error x
  | .ok (x, _, r) => if r = [] then .ok x else .error 3
end Cn
end Go.Proofs.YtdfkpjmljaanpaaDoor
