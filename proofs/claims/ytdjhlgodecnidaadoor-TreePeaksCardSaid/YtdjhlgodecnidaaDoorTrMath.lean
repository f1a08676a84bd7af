/- The tree of digests, without a program: the root, the way, the bridge, the texts, level by level; where a way leads; what leads to the root is what stands there, or there is a twin. -/
import Derived.Test.YtdjhlgodecnidaaDoorMH2
namespace Go.Proofs.YtdjhlgodecnidaaDoor
open Go.RowKit

namespace Tr
def leafT (s : ByteArray) : ByteArray := ⟨#[0]⟩ ++ s
def nodeT (a b : ByteArray) : ByteArray := ⟨#[1]⟩ ++ a ++ b
def sumE (s : ByteArray) : ByteArray := str (sha s.data.toList)
def leaf (s : ByteArray) : ByteArray := sumE (leafT s)
def node (a b : ByteArray) : ByteArray := sumE (nodeT a b)
theorem sumE_size (s : ByteArray) : (sumE s).size = 32 := by rw [sumE, str_size, sha_length]
/-- The greatest power of 2 below n. -/
def hf (n : Nat) : Nat := 2 ^ Nat.log2 (n - 1)
theorem hf_pos (n : Nat) : 0 < hf n := Nat.two_pow_pos _
theorem hf_lt {n : Nat} (h : 2 ≤ n) : hf n < n := by
  have : 2 ^ Nat.log2 (n - 1) ≤ n - 1 := Nat.log2_self_le (by omega)
  unfold hf; omega
theorem hf_ge {n : Nat} (h : 2 ≤ n) : n ≤ 2 * hf n := by
  have : n - 1 < 2 ^ (Nat.log2 (n - 1) + 1) := Nat.lt_log2_self
  rw [Nat.pow_succ] at this
  unfold hf; omega
theorem hf_unique {n k j : Nat} (hk : k = 2 ^ j) (h1 : k < n) (h2 : n ≤ 2 * k) : k = hf n := by
  have e : Nat.log2 (n - 1) = j := by
    have h0 : n - 1 ≠ 0 := by have := Nat.two_pow_pos j; omega
    have a : j ≤ Nat.log2 (n - 1) := (Nat.le_log2 h0).2 (by omega)
    have b : Nat.log2 (n - 1) < j + 1 := (Nat.log2_lt h0).2 (by rw [Nat.pow_succ]; omega)
    omega
  unfold hf
  rw [e, hk]
theorem hf_two : hf 2 = 1 := by decide
theorem hf_even {n : Nat} (h : 3 ≤ n) : ∃ m, 1 ≤ m ∧ hf n = 2 * m ∧ hf ((n + 1) / 2) = m := by
  have h1 := hf_lt (n := n) (by omega)
  have h2 := hf_ge (n := n) (by omega)
  have h3 : hf n = 2 ^ Nat.log2 (n - 1) := rfl
  cases hj : Nat.log2 (n - 1) with
  | zero => rw [hj] at h3; omega
  | succ j =>
    rw [hj, Nat.pow_succ] at h3
    have hp := Nat.two_pow_pos j
    exact ⟨2 ^ j, by omega, by omega, (hf_unique rfl (by omega) (by omega)).symm⟩

/-- The root. -/
def rootF : Nat → List ByteArray → ByteArray
  | 0, _ => sumE ⟨#[]⟩
  | f + 1, l => match l with
    | [] => sumE ⟨#[]⟩
    | [d] => d
    | l => node (rootF f (l.take (hf l.length))) (rootF f (l.drop (hf l.length)))
def root (l : List ByteArray) : ByteArray := rootF l.length l
theorem len_cases {α : Type} (l : List α) : l = [] ∨ (∃ a, l = [a]) ∨ 2 ≤ l.length := by
  match l with
  | [] => exact .inl rfl
  | [a] => exact .inr (.inl ⟨a, rfl⟩)
  | a :: b :: r => exact .inr (.inr (by simp))
theorem rootF_succ {f : Nat} {l : List ByteArray} (h : 2 ≤ l.length) : rootF (f + 1) l = node (rootF f (l.take (hf l.length))) (rootF f (l.drop (hf l.length))) := by
  match l, h with
  | a :: b :: r, _ => rfl
theorem rootF_any : ∀ (f g : Nat) (l : List ByteArray), l.length ≤ f → l.length ≤ g → rootF f l = rootF g l := by
  intro f
  induction f with
  | zero =>
    intro g l h1 h2
    have : l = [] := List.length_eq_zero_iff.1 (by omega)
    subst this
    cases g <;> rfl
  | succ f ih =>
    intro g l h1 h2
    cases g with
    | zero =>
      have : l = [] := List.length_eq_zero_iff.1 (by omega)
      subst this; rfl
    | succ g =>
      rcases len_cases l with rfl | ⟨a, rfl⟩ | h
      · rfl
      · rfl
      · rw [rootF_succ h, rootF_succ h]
        have p1 := hf_pos l.length
        have p2 := hf_lt h
        rw [ih g _ (by rw [List.length_take]; omega) (by rw [List.length_take]; omega), ih g _ (by rw [List.length_drop]; omega) (by rw [List.length_drop]; omega)]
theorem root_nil : root [] = sumE ⟨#[]⟩ := rfl
theorem root_one (a : ByteArray) : root [a] = a := rfl
theorem root_two {l : List ByteArray} (h : 2 ≤ l.length) : root l = node (root (l.take (hf l.length))) (root (l.drop (hf l.length))) := by
  have p1 := hf_pos l.length
  have p2 := hf_lt h
  unfold root
  rw [show rootF l.length l = rootF (l.length - 1 + 1) l by congr 1; omega, rootF_succ h]
  congr 1
  · exact rootF_any _ _ _ (by rw [List.length_take]; omega) (Nat.le_refl _)
  · exact rootF_any _ _ _ (by rw [List.length_drop]; omega) (Nat.le_refl _)

/-- The next level. -/
def next : List ByteArray → List ByteArray
  | a :: b :: r => node a b :: next r
  | l => l
theorem next_length : ∀ l : List ByteArray, (next l).length = (l.length + 1) / 2
  | [] => rfl
  | [a] => by simp [next]
  | a :: b :: r => by rw [next, List.length_cons, next_length r]; simp; omega
theorem next_append : ∀ (p q : List ByteArray), p.length % 2 = 0 → next (p ++ q) = next p ++ next q
  | [], q, _ => rfl
  | [a], q, h => by simp at h
  | a :: b :: r, q, h => by
    rw [List.cons_append, List.cons_append, next, next, List.cons_append, next_append r q (by simp at h; omega)]
theorem next_one (a : ByteArray) : next [a] = [a] := rfl
theorem next_pair (a b : ByteArray) : next [a, b] = [node a b] := rfl
theorem split_at (l : List ByteArray) (k : Nat) : l = l.take k ++ l.drop k := (List.take_append_drop k l).symm
theorem next_halves {l : List ByteArray} {k : Nat} (h : k % 2 = 0) (hk : k ≤ l.length) : next l = next (l.take k) ++ next (l.drop k) ∧ (next (l.take k)).length = k / 2 := by
  constructor
  · rw [← next_append _ _ (by rw [List.length_take]; omega), List.take_append_drop]
  · rw [next_length, List.length_take]; omega
theorem next_take {l : List ByteArray} {k : Nat} (h : k % 2 = 0) (hk : k ≤ l.length) : next (l.take k) = (next l).take (k / 2) := by
  obtain ⟨e, e2⟩ := next_halves h hk
  rw [e, List.take_append_of_le_length (Nat.le_of_eq e2.symm)]
  exact (List.take_of_length_le (Nat.le_of_eq e2)).symm
theorem next_drop {l : List ByteArray} {k : Nat} (h : k % 2 = 0) (hk : k ≤ l.length) : next (l.drop k) = (next l).drop (k / 2) := by
  obtain ⟨e, e2⟩ := next_halves h hk
  rw [e, ← e2, List.drop_left]
/-- A root is that of the next level. -/
theorem root_next : ∀ (n : Nat) (l : List ByteArray), l.length = n → root (next l) = root l := by
  intro n
  induction n using Nat.strongRecOn with
  | ind n ih =>
    intro l hn
    rcases len_cases l with rfl | ⟨a, rfl⟩ | h
    · rfl
    · rfl
    · by_cases h3 : 3 ≤ l.length
      · obtain ⟨m, m1, m2, m3⟩ := hf_even h3
        have p2 := hf_lt h
        have hl := next_length l
        rw [root_two h, root_two (l := next l) (by omega), hl, m3, m2, ← ih (2 * m) (by omega) (l.take (2 * m)) (by rw [List.length_take]; omega), ← ih (l.length - 2 * m) (by omega) (l.drop (2 * m)) (by rw [List.length_drop])]
        rw [next_take (by omega) (by omega), next_drop (by omega) (by omega), show 2 * m / 2 = m by omega]
      · match l, h, h3 with
        | [a, b], _, _ => rfl
        | a :: b :: c :: r, _, h3 => simp at h3
theorem root_next' (l : List ByteArray) : root (next l) = root l := root_next _ l rfl

/-- The way of a place. -/
def wayF : Nat → List ByteArray → Nat → List ByteArray
  | 0, _, _ => []
  | f + 1, l, i => if l.length ≤ 1 then [] else
      if i < hf l.length then wayF f (l.take (hf l.length)) i ++ [root (l.drop (hf l.length))]
      else wayF f (l.drop (hf l.length)) (i - hf l.length) ++ [root (l.take (hf l.length))]
def way (l : List ByteArray) (i : Nat) : List ByteArray := wayF l.length l i
theorem wayF_any : ∀ (f g : Nat) (l : List ByteArray) (i : Nat), l.length ≤ f → l.length ≤ g → wayF f l i = wayF g l i := by
  intro f
  induction f with
  | zero =>
    intro g l i h1 h2
    cases g with
    | zero => rfl
    | succ g => rw [wayF, wayF, if_pos (by omega)]
  | succ f ih =>
    intro g l i h1 h2
    cases g with
    | zero => rw [wayF, wayF, if_pos (by omega)]
    | succ g =>
      rw [wayF, wayF]
      by_cases h : l.length ≤ 1
      · rw [if_pos h, if_pos h]
      · rw [if_neg h, if_neg h]
        have p1 := hf_pos l.length
        have p2 := hf_lt (n := l.length) (by omega)
        rw [ih g _ _ (by rw [List.length_take]; omega) (by rw [List.length_take]; omega), ih g _ _ (by rw [List.length_drop]; omega) (by rw [List.length_drop]; omega)]
theorem way_one {l : List ByteArray} (h : l.length ≤ 1) (i : Nat) : way l i = [] := by
  unfold way
  cases hl : l.length with
  | zero => rfl
  | succ n => rw [wayF, if_pos h]
theorem way_two {l : List ByteArray} (h : 2 ≤ l.length) (i : Nat) : way l i = if i < hf l.length then way (l.take (hf l.length)) i ++ [root (l.drop (hf l.length))] else way (l.drop (hf l.length)) (i - hf l.length) ++ [root (l.take (hf l.length))] := by
  have p1 := hf_pos l.length
  have p2 := hf_lt h
  unfold way
  rw [show wayF l.length l i = wayF (l.length - 1 + 1) l i by congr 1; omega, wayF, if_neg (by omega)]
  rw [wayF_any (l.length - 1) (l.take (hf l.length)).length _ _ (by rw [List.length_take]; omega) (Nat.le_refl _), wayF_any (l.length - 1) (l.drop (hf l.length)).length _ _ (by rw [List.length_drop]; omega) (Nat.le_refl _)]
/-- What stands beside a place. -/
def sib (l : List ByteArray) (i : Nat) : List ByteArray := if i % 2 = 1 then (l.drop (i - 1)).take 1 else (l.drop (i + 1)).take 1
theorem sib_take {l : List ByteArray} {k i : Nat} (hk : k % 2 = 0) (h : i < k) : sib (l.take k) i = sib l i := by
  unfold sib
  have : ∀ j, j < k → ((l.take k).drop j).take 1 = (l.drop j).take 1 := fun j hj => by
    rw [List.drop_take, List.take_take, Nat.min_eq_left (by omega)]
  split
  · exact this _ (by omega)
  · exact this _ (by omega)
theorem sib_drop {l : List ByteArray} {k i : Nat} (hk : k % 2 = 0) (h : k ≤ i) : sib (l.drop k) (i - k) = sib l i := by
  unfold sib
  rw [show (i - k) % 2 = i % 2 by omega, List.drop_drop, List.drop_drop]
  split
  · rw [show k + (i - k - 1) = i - 1 by omega]
  · rw [show k + (i - k + 1) = i + 1 by omega]
theorem way_next : ∀ (n : Nat) (l : List ByteArray) (i : Nat), l.length = n → i < n → way l i = sib l i ++ way (next l) (i / 2) := by
  intro n
  induction n using Nat.strongRecOn with
  | ind n ih =>
    intro l i hn hi
    rcases len_cases l with rfl | ⟨a, rfl⟩ | h
    · simp at hn; omega
    · simp at hn
      obtain rfl : i = 0 := by omega
      rfl
    · by_cases h3 : 3 ≤ l.length
      · obtain ⟨m, m1, m2, m3⟩ := hf_even h3
        have p2 := hf_lt h
        have hl := next_length l
        rw [way_two h, way_two (l := next l) (by omega), hl, m3, m2]
        by_cases hc : i < 2 * m
        · rw [if_pos hc, if_pos (by omega), ih (2 * m) (by omega) (l.take (2 * m)) i (by rw [List.length_take]; omega) hc, sib_take (by omega) hc, next_take (by omega) (by omega), show 2 * m / 2 = m by omega, List.append_assoc]
          rw [← root_next' (l.drop (2 * m)), next_drop (by omega) (by omega), show 2 * m / 2 = m by omega]
        · rw [if_neg hc, if_neg (by omega), ih (l.length - 2 * m) (by omega) (l.drop (2 * m)) (i - 2 * m) (by rw [List.length_drop]) (by omega), sib_drop (by omega) (by omega), next_drop (by omega) (by omega), show 2 * m / 2 = m by omega, show (i - 2 * m) / 2 = i / 2 - m by omega, List.append_assoc]
          rw [← root_next' (l.take (2 * m)), next_take (by omega) (by omega), show 2 * m / 2 = m by omega]
      · match l, h, h3, hn with
        | [a, b], _, _, hn =>
          have : i = 0 ∨ i = 1 := by simp at hn; omega
          rcases this with rfl | rfl <;> rfl
        | a :: b :: c :: r, _, h3, _ => simp at h3

/-- The bridge. -/
def bridgeF : Nat → List ByteArray → Nat → Bool → List ByteArray
  | 0, _, _, _ => []
  | f + 1, l, m, known => if m = l.length then (if known = true then [] else [root l]) else
      if m ≤ hf l.length then bridgeF f (l.take (hf l.length)) m known ++ [root (l.drop (hf l.length))]
      else bridgeF f (l.drop (hf l.length)) (m - hf l.length) false ++ [root (l.take (hf l.length))]
def bridge (l : List ByteArray) (m : Nat) (known : Bool) : List ByteArray := bridgeF l.length l m known
theorem bridgeF_any : ∀ (f g : Nat) (l : List ByteArray) (m : Nat) (known : Bool), 1 ≤ m → m ≤ l.length → l.length ≤ f → l.length ≤ g → bridgeF f l m known = bridgeF g l m known := by
  intro f
  induction f with
  | zero => intro g l m known h0 h1 h2 h3; omega
  | succ f ih =>
    intro g l m known h0 h1 h2 h3
    cases g with
    | zero => omega
    | succ g =>
      rw [bridgeF, bridgeF]
      by_cases h : m = l.length
      · rw [if_pos h, if_pos h]
      · rw [if_neg h, if_neg h]
        have p1 := hf_pos l.length
        have p2 := hf_lt (n := l.length) (by omega)
        by_cases hc : m ≤ hf l.length
        · rw [if_pos hc, if_pos hc, ih g _ _ _ h0 (by rw [List.length_take]; omega) (by rw [List.length_take]; omega) (by rw [List.length_take]; omega)]
        · rw [if_neg hc, if_neg hc, ih g _ _ _ (by omega) (by rw [List.length_drop]; omega) (by rw [List.length_drop]; omega) (by rw [List.length_drop]; omega)]
theorem bridge_all {l : List ByteArray} (h : 1 ≤ l.length) (known : Bool) : bridge l l.length known = if known = true then [] else [root l] := by
  unfold bridge
  rw [show bridgeF l.length l l.length known = bridgeF (l.length - 1 + 1) l l.length known by congr 1; omega, bridgeF, if_pos rfl]
theorem bridge_two {l : List ByteArray} {m : Nat} (h0 : 1 ≤ m) (h : m < l.length) (known : Bool) : bridge l m known =
    if m ≤ hf l.length then bridge (l.take (hf l.length)) m known ++ [root (l.drop (hf l.length))] else bridge (l.drop (hf l.length)) (m - hf l.length) false ++ [root (l.take (hf l.length))] := by
  have p1 := hf_pos l.length
  have p2 := hf_lt (n := l.length) (by omega)
  unfold bridge
  rw [show bridgeF l.length l m known = bridgeF (l.length - 1 + 1) l m known by congr 1; omega, bridgeF, if_neg (by omega)]
  by_cases hc : m ≤ hf l.length
  · rw [if_pos hc, if_pos hc, bridgeF_any (l.length - 1) (l.take (hf l.length)).length _ _ _ h0 (by rw [List.length_take]; omega) (by rw [List.length_take]; omega) (Nat.le_refl _)]
  · rw [if_neg hc, if_neg hc, bridgeF_any (l.length - 1) (l.drop (hf l.length)).length _ _ _ (by omega) (by rw [List.length_drop]; omega) (by rw [List.length_drop]; omega) (Nat.le_refl _)]
/-- Where a bridge may begin: ahead of the end, or at the end of a whole tree. -/
def Fit (n m : Nat) : Prop := 1 ≤ m ∧ (m < n ∨ (m = n ∧ ∃ j, n = 2 ^ j))
theorem Fit.left {n m : Nat} (h : Fit n m) (hk : m ≤ hf n) : Fit (hf n) m := by
  refine ⟨h.1, ?_⟩
  by_cases e : m = hf n
  · exact Or.inr ⟨e, _, rfl⟩
  · exact Or.inl (by omega)
theorem bridge_odd : ∀ (n : Nat) (l : List ByteArray) (m : Nat) (known : Bool), l.length = n → Fit n m → m % 2 = 1 →
    bridge l m known = (if known = true ∧ m = 1 then [] else (l.drop (m - 1)).take 1) ++ way l (m - 1) := by
  intro n
  induction n using Nat.strongRecOn with
  | ind n ih =>
    intro l m known hn hf1 ho
    by_cases hm : m = n
    · have h1 : n = 1 := by
        rcases hf1.2 with h | ⟨-, j, h⟩
        · omega
        · cases j with
          | zero => simpa using h
          | succ j => rw [Nat.pow_succ] at h; omega
      subst h1 hm
      rcases len_cases l with rfl | ⟨a, rfl⟩ | h
      · simp at hn
      · rw [show (1 : Nat) = [a].length from rfl, bridge_all (by simp), way_one (by simp)]
        cases known <;> rfl
      · omega
    · have hlt : m < l.length := by rcases hf1.2 with h | h <;> omega
      have p2 := hf_lt (n := l.length) (by have := hf1.1; omega)
      have h2 : 2 ≤ l.length := by have := hf1.1; omega
      rw [bridge_two hf1.1 hlt, way_two h2]
      by_cases hc : m ≤ hf l.length
      · have q1 : m - 1 < hf l.length := by have := hf1.1; omega
        rw [if_pos hc, if_pos q1, ih (hf l.length) (by omega) (l.take (hf l.length)) m known (by rw [List.length_take]; omega) (Fit.left (hn ▸ hf1) hc) ho, List.append_assoc]
        rw [List.drop_take, List.take_take, Nat.min_eq_left (by have := hf1.1; omega)]
      · have q1 : ¬ (m - 1 < hf l.length) := by omega
        rw [if_neg hc, if_neg q1]
        have he : hf l.length % 2 = 0 := by
          by_cases h3 : 3 ≤ l.length
          · obtain ⟨q, -, q2, -⟩ := hf_even h3; omega
          · have : l.length = 2 := by omega
            rw [this, hf_two] at hc; omega
        have p1 := hf_pos l.length
        rw [ih (l.length - hf l.length) (by omega) (l.drop (hf l.length)) (m - hf l.length) false (by rw [List.length_drop]) ⟨by omega, Or.inl (by omega)⟩ (by omega), if_neg (fun e => by cases e.1), if_neg (fun e => by omega), List.append_assoc, List.drop_drop]
        rw [show hf l.length + (m - hf l.length - 1) = m - 1 by omega, show m - hf l.length - 1 = m - 1 - hf l.length by omega]
theorem bridge_even : ∀ (n : Nat) (l : List ByteArray) (m : Nat) (known : Bool), l.length = n → Fit n m → m % 2 = 0 → bridge l m known = bridge (next l) (m / 2) known := by
  intro n
  induction n using Nat.strongRecOn with
  | ind n ih =>
    intro l m known hn hf1 ho
    have hl := next_length l
    by_cases hm : m = n
    · subst hn
      subst hm
      have h1 := hf1.1
      rw [bridge_all h1, show l.length / 2 = (next l).length by rw [hl]; omega, bridge_all (by rw [hl]; omega), root_next']
    · have hlt : m < l.length := by rcases hf1.2 with h | h <;> omega
      have h3 : 3 ≤ l.length := by have := hf1.1; omega
      obtain ⟨q, q1, q2, q3⟩ := hf_even h3
      have p2 := hf_lt (n := l.length) (by omega)
      have h1 := hf1.1
      rw [bridge_two h1 hlt, bridge_two (l := next l) (m := m / 2) (by omega) (by rw [hl]; omega), hl, q3, q2]
      by_cases hc : m ≤ 2 * q
      · rw [if_pos hc, if_pos (by omega), ih (2 * q) (by omega) (l.take (2 * q)) m known (by rw [List.length_take]; omega) (q2 ▸ Fit.left (hn ▸ hf1) (by omega)) ho, next_take (by omega) (by omega), show 2 * q / 2 = q by omega, ← root_next' (l.drop (2 * q)), next_drop (by omega) (by omega), show 2 * q / 2 = q by omega]
      · rw [if_neg hc, if_neg (by omega), ih (l.length - 2 * q) (by omega) (l.drop (2 * q)) (m - 2 * q) false (by rw [List.length_drop]) ⟨by omega, Or.inl (by omega)⟩ (by omega), next_drop (by omega) (by omega), show 2 * q / 2 = q by omega, show (m - 2 * q) / 2 = m / 2 - q by omega, ← root_next' (l.take (2 * q)), next_take (by omega) (by omega), show 2 * q / 2 = q by omega]
/-- The level so many further up. -/
def up : Nat → List ByteArray → List ByteArray
  | 0, l => l
  | j + 1, l => up j (next l)
theorem root_up : ∀ (j : Nat) (l : List ByteArray), root (up j l) = root l
  | 0, _ => rfl
  | j + 1, l => by rw [up, root_up j, root_next']
theorem up_length : ∀ (j : Nat) (l : List ByteArray), 1 ≤ l.length → (up j l).length = (l.length - 1) / 2 ^ j + 1
  | 0, l, h => by rw [up]; simp; omega
  | j + 1, l, h => by
    have hl := next_length l
    rw [up, up_length j (next l) (by omega), hl, show (l.length + 1) / 2 - 1 = (l.length - 1) / 2 by omega, Nat.div_div_eq_div_mul, Nat.pow_succ, Nat.mul_comm 2]
theorem fit_next {l : List ByteArray} {m : Nat} (h : Fit l.length m) (he : m % 2 = 0) : Fit (next l).length (m / 2) := by
  have hl := next_length l
  have h1 := h.1
  refine ⟨by omega, ?_⟩
  rcases h.2 with h2 | ⟨h2, j, h3⟩
  · exact Or.inl (by omega)
  · refine Or.inr ⟨by omega, ?_⟩
    cases j with
    | zero => simp at h3; omega
    | succ j => exact ⟨j, by rw [Nat.pow_succ] at h3; omega⟩
theorem bridge_up : ∀ (j : Nat) (l : List ByteArray) (q : Nat) (known : Bool), Fit l.length (q * 2 ^ j) → bridge l (q * 2 ^ j) known = bridge (up j l) q known ∧ Fit (up j l).length q
  | 0, l, q, known, h => by rw [Nat.pow_zero, Nat.mul_one] at h ⊢; exact ⟨rfl, h⟩
  | j + 1, l, q, known, h => by
    have e : q * 2 ^ (j + 1) = 2 * (q * 2 ^ j) := by rw [Nat.pow_succ, ← Nat.mul_assoc, Nat.mul_comm]
    rw [e] at h ⊢
    have h2 := fit_next h (by omega)
    rw [show 2 * (q * 2 ^ j) / 2 = q * 2 ^ j by omega] at h2
    obtain ⟨i1, i2⟩ := bridge_up j (next l) q known h2
    rw [bridge_even _ l _ known rfl h (by omega), show 2 * (q * 2 ^ j) / 2 = q * 2 ^ j by omega]
    exact ⟨i1, i2⟩
theorem up_take : ∀ (j : Nat) (l : List ByteArray) (q : Nat), q * 2 ^ j ≤ l.length → up j (l.take (q * 2 ^ j)) = (up j l).take q
  | 0, l, q, h => by rw [Nat.pow_zero, Nat.mul_one, up, up]
  | j + 1, l, q, h => by
    have e : q * 2 ^ (j + 1) = 2 * (q * 2 ^ j) := by rw [Nat.pow_succ, ← Nat.mul_assoc, Nat.mul_comm]
    rw [e] at h ⊢
    have hl := next_length l
    rw [up, up, next_take (by omega) h, show 2 * (q * 2 ^ j) / 2 = q * 2 ^ j by omega, up_take j (next l) q (by omega)]
end Tr
end Go.Proofs.YtdjhlgodecnidaaDoor
